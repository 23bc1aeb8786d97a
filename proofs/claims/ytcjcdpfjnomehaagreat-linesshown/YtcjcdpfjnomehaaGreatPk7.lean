/-
  What the document's bare and Compare answer: bare: the same number without noughts at the end, in new memory; Compare: -1, 0 or 1 as the first number is less than, as great as or greater than the second.
-/
import Derived.Laws.AppendOwnNone
import Derived.Test.YtcjcdpfjnomehaaGreatPk1
import Derived.Test.YtcjcdpfjnomehaaGreatPk0
namespace Go.Proofs.YtcjcdpfjnomehaaGreat
open Go.RowKit
set_option linter.unusedSimpArgs false
set_option linter.unusedVariables false
end Go.Proofs.YtcjcdpfjnomehaaGreat

/-
  What the document's Compare answers: -1, 0 or 1 as the first number is less than, as great as or greater than the second.
-/
namespace Go.Proofs.YtcjcdpfjnomehaaGreat
open Go.RowKit
set_option linter.unusedSimpArgs false
set_option linter.unusedVariables false
def cp (x y : Nat) : Int := if x < y then -1 else if y < x then 1 else 0
end Go.Proofs.YtcjcdpfjnomehaaGreat

/-
  What the document's Times answers: the product's digits, in new memory, with no nought at the end.
-/
namespace Go.Proofs.YtcjcdpfjnomehaaGreat
open Go.RowKit
set_option linter.unusedSimpArgs false
set_option linter.unusedVariables false
end Go.Proofs.YtcjcdpfjnomehaaGreat

/-
  What the document's Back and Mul answer: Back: the digits' number, at most Most; Mul: the product of the clamped numbers, clamped.
-/
namespace Go.Proofs.YtcjcdpfjnomehaaGreat
open Go.RowKit
set_option linter.unusedSimpArgs false
set_option linter.unusedVariables false
def ml (a b : Int) : Int := cl (cl a * cl b)
end Go.Proofs.YtcjcdpfjnomehaaGreat
