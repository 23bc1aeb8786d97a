/-
  What the document's Right answers for every text of at most 1048576 bytes, and Between and Boundary for every place of a right one.
-/
import Derived.Test.YtflhefgmgdgffabUm
namespace Go.Proofs.Ytflhefgmgdgffab
open Go.RowKit
set_option linter.unusedSimpArgs false
set_option linter.unusedVariables false

/-- Does a place lie between runes? -/
def btw (s : ByteArray) (N : Nat) (a : Int) : Bool := decide (∃ j, j < N ∧ (it s j : Int) = a) || (a == (s.size : Int))


end Go.Proofs.Ytflhefgmgdgffab
