/-
  What the program's Same and the document's tell of two lines.
-/
import Derived.Deep.CutRange
import Derived.Deep.DeepCutAuto
import Derived.Test.YtcjcdpfjnomehaaGreatPk22
import Derived.Test.YtcjcdpfjnomehaaGreatPk21
namespace Go.Proofs.YtcjcdpfjnomehaaGreat
open Go.RowKit
set_option linter.unusedSimpArgs false
set_option linter.unusedVariables false
def lnB (x y : Lne) : Bool := (x.num == y.num && x.den == y.den) && (x.h == y.h && x.y == y.y) && (x.hy == y.hy && x.bg == y.bg && x.en == y.en) && (x.tx.toList == y.tx.toList)
section
variable {w : World}
set_option maxRecDepth 100000 in
set_option maxHeartbeats 4000000 in
theorem refsame10_any (S S' : Nat → Prop) (x y : Lne) (hx : Ru.P2At S w x.ra x.rn x.L x.Y) (hy : Ru.P2At S' w y.ra y.rn y.L y.Y) (hxn : x.rn ≤ 1048576) :
    Calls Tryz.prog 33 #[x.val, y.val] w fun e w' => ∃ r, e = .returned (.bool r) ∧ (r = true ↔ lnB x y = true ∧ x.rn = y.rn ∧ ∀ i, i < x.rn → x.L i = y.L i ∧ x.Y i = y.Y i) ∧ Below w.heap.size w w' := by
  unfold Lne.val
  have HS := boxed (fun W (hb : Below w.heap.size w W) => Ru.rsame_any S S' W x.ra y.ra x.rn y.rn x.rc y.rc x.L x.Y y.L y.Y (hx.below hb) (hy.below hb) hxn)
  have HL := boxed (show lnB x y = ((x.num == y.num && x.den == y.den) && (x.h == y.h && x.y == y.y) && (x.hy == y.hy && x.bg == y.bg && x.en == y.en) && (x.tx.toList == y.tx.toList)) from rfl)
  generalize lnB x y = V at *
  clear hx hy hxn
  obtain ⟨D, hD⟩ : ∃ D : Prop, (x.rn = y.rn ∧ ∀ i, i < x.rn → x.L i = y.L i ∧ x.Y i = y.Y i) = D := ⟨_, rfl⟩
  rw [hD] at HS ⊢
  clear hD
  obtain ⟨x1, x2, x3, x4, x5, x6, x7, x8, x9, xa, xb, xc, xd⟩ := x
  obtain ⟨y1, y2, y3, y4, y5, y6, y7, y8, y9, ya, yb, yc, yd⟩ := y
  simp only at HS HL ⊢
  clear xc xd yc yd
  go_enter Tryz.func33, Tryz.ntmps33
  go_wp2_with fail
  all_goals first
    | (go_ret; exact ⟨_, rfl, by rw [HL.out]; simp [*], by go_grown⟩)
    | (refine (HS.out _ (by go_grown)).mono ?_; rintro e w1 ⟨r, rfl, hr, hb1⟩; have HF := boxed (And.intro hr (below_step (B := w.heap.size) (w := w) (by go_grown) (Nat.le_refl _) hb1)); clear hr hb1 HS; go_wp2_with fail; go_ret; exact ⟨r, rfl, by rw [HL.out, HF.out.1]; simp [*], HF.out.2⟩)
end
end Go.Proofs.YtcjcdpfjnomehaaGreat
