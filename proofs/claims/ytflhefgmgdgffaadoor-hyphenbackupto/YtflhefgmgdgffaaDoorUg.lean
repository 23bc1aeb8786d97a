/-
  What the program's Boundary answers for every text and every place, and that the page's examples come out.
-/
import Derived.Test.YtflhefgmgdgffaaDoorUf
namespace Go.Proofs.YtflhefgmgdgffaaDoor
open Go.RowKit
set_option linter.unusedSimpArgs false
set_option linter.unusedVariables false

/-- ErrOffset, ErrInside or OK. -/
def bnd (s : ByteArray) (a : Int) : Int := if a < 0 ∨ (s.size : Int) < a then 30 else if a < (s.size : Int) ∧ ins (bt s a.toNat : Int) = true then 21 else 0


theorem cnt1 : Cnt ⟨#[195, 40]⟩ 0 := ⟨by intro j h; omega, by decide +kernel⟩
theorem cnt2 : Cnt ⟨#[97, 195, 169, 98]⟩ 3 := by unfold Cnt; decide +kernel

end Go.Proofs.YtflhefgmgdgffaaDoor
