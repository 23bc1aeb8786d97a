/-
  What the program's Same tells of two lines.
-/
import Derived.Test.YtcjcdpfjnomehaaGreatPk39
import Derived.Test.YtcjcdpfjnomehaaGreatPk28
namespace Go.Proofs.YtcjcdpfjnomehaaGreat
open Go.RowKit
set_option linter.unusedSimpArgs false
set_option linter.unusedVariables false
section
variable {w : World}
set_option maxRecDepth 100000 in
set_option maxHeartbeats 4000000 in
theorem same10_any (x y : Lne) (hx : Ru.P2At (fun _ => True) w x.ra x.rn x.L x.Y) (hy : Ru.P2At (fun _ => True) w y.ra y.rn y.L y.Y) (hxc : x.rn ≤ x.rc) (hyc : y.rn ≤ y.rc) :
    Calls Tryz.prog 32 #[x.val, y.val] w fun e w' => ∃ r, e = .returned (.bool r) ∧ (r = true ↔ lnB x y = true ∧ Ru.exs x.L x.Y x.rn = Ru.exs y.L y.Y y.rn) ∧ Below w.heap.size w w' := by
  unfold Lne.val
  have HS := boxed (fun W (hb : Below w.heap.size w W) => Ru.psame_any W x.ra y.ra x.rn x.rc y.rn y.rc x.L x.Y y.L y.Y (hx.below hb) (hy.below hb) hxc hyc)
  have HL := boxed (show lnB x y = ((x.num == y.num && x.den == y.den) && (x.h == y.h && x.y == y.y) && (x.hy == y.hy && x.bg == y.bg && x.en == y.en) && (x.tx.toList == y.tx.toList)) from rfl)
  generalize lnB x y = V at *
  clear hx hy hxc hyc
  obtain ⟨D1, hD1⟩ : ∃ D, Ru.exs x.L x.Y x.rn = D := ⟨_, rfl⟩
  obtain ⟨D2, hD2⟩ : ∃ D, Ru.exs y.L y.Y y.rn = D := ⟨_, rfl⟩
  rw [hD1, hD2] at HS ⊢
  clear hD1 hD2
  obtain ⟨x1, x2, x3, x4, x5, x6, x7, x8, x9, xa, xb, xc, xd⟩ := x
  obtain ⟨y1, y2, y3, y4, y5, y6, y7, y8, y9, ya, yb, yc, yd⟩ := y
  simp only at HS HL ⊢
  clear xc xd yc yd
  go_enter Tryz.func32, Tryz.ntmps32
  go_wp2_with fail
  all_goals first
    | (go_ret; exact ⟨_, rfl, by rw [HL.out]; simp [*], by go_grown⟩)
    | (refine (HS.out _ (by go_grown)).mono ?_; rintro e w1 ⟨r, rfl, hr, hb1⟩; have HF := boxed (And.intro hr (below_step (B := w.heap.size) (w := w) (by go_grown) (Nat.le_refl _) hb1)); clear hr hb1 HS; go_wp2_with fail; go_ret; exact ⟨r, rfl, by rw [HL.out, HF.out.1]; simp [*], HF.out.2⟩)
end
end Go.Proofs.YtcjcdpfjnomehaaGreat
