/-
  What the document's Bad answers for any two numbers: the same as the program's.
-/
import Derived.Test.YtcjcdpfjnomehaaGreatPw5
import Derived.Test.YtcjcdpfjnomehaaGreatPw8
namespace Go.Proofs.YtcjcdpfjnomehaaGreat
open Go.RowKit
set_option linter.unusedSimpArgs false
set_option linter.unusedVariables false
def vlx (n : Nat) : Nat := n
end Go.Proofs.YtcjcdpfjnomehaaGreat
