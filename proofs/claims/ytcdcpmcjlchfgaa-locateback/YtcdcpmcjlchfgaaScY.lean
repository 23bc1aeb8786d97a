/-
  What the program's Mul, Sub, Neg and Scale answer.
-/
import Derived.Test.YtcdcpmcjlchfgaaScX
import Derived.Test.YtcdcpmcjlchfgaaScV
namespace Go.Proofs.Ytcdcpmcjlchfgaa.Sc
open Go.RowKit
set_option linter.unusedSimpArgs false
set_option linter.unusedVariables false

theorem mdv_one (a b : Int) : mdv a b 1 = ml a b := by
  unfold mdv ml
  rw [if_neg (by omega)]
  have : cl 1 = 1 := by decide
  rw [this, Int.fdiv_one]

end Go.Proofs.Ytcdcpmcjlchfgaa.Sc
