/-
  The law's awake answers true.
-/
import Derived.Test.YtjfcpbnipkkjbaaMm
namespace Go.Proofs.Ytjfcpbnipkkjbaa
open Go.RowKit
set_option linter.unusedSimpArgs false
set_option linter.unusedVariables false

/-- The page's example. -/
def exS : Sty := ⟨10, 6, 3, 2, 6, 6, none, 0, 0, false, fun _ => ⟨0, 0, 0⟩⟩
theorem exS_ok : StyOk exS := by
  refine ⟨?_, ?_, ?_, ?_, ?_, ?_, ⟨Nat.le_refl _, by show 0 * 24 ≤ 140737488351232; omega⟩, fun _ => ⟨rfl, rfl⟩⟩ <;> (unfold I64 exS; simp)
theorem exS_ck : ckc (fun _ => exS) 1 = 0 := by decide
theorem exS_at (w : World) : StysAt (fun _ => True) (w.alloc (.cells #[.int .i64 10, .int .i64 6, .int .i64 3, .int .i64 2, .int .i64 6, .int .i64 6, .slice none 0 0, .bool false] 35)) (some ⟨w.heap.size, 0, none⟩) 1 (fun _ => exS) := by
  intro i hi
  obtain rfl : i = 0 := by omega
  refine ⟨exS_ok, fun j hj => absurd hj (by show ¬ j < 0; omega), w.heap.size, 0, rfl, trivial, ?_⟩
  exact ⟨cell_first _ _ _ _, cell_first _ _ _ _, cell_first _ _ _ _, cell_first _ _ _ _, cell_first _ _ _ _, cell_first _ _ _ _, cell_first _ _ _ _, cell_first _ _ _ _⟩
theorem abc_right : Right ⟨#[97, 98, 99]⟩ 3 := by
  refine ⟨⟨?_, by decide⟩, by decide⟩
  intro j hj
  rcases (show j = 0 ∨ j = 1 ∨ j = 2 by omega) with rfl | rfl | rfl <;> decide
theorem abc_wide : txw exS ⟨#[97, 98, 99]⟩ 3 = 18 := by decide
theorem soft_wide : wdS exS 173 = 0 := by decide

set_option maxRecDepth 100000 in
set_option maxHeartbeats 1000000 in
theorem awake_any (w : World) : Calls Try.prog 9 #[] w fun e w' => e = .returned (.bool true) ∧ Below w.heap.size w w' := by
  have HX := boxed (table_any (fun _ => True) (some ⟨w.heap.size, 0, none⟩) 1 1 (fun _ => exS) _ (exS_at w))
  go_enter Try.func9, Try.ntmps9
  go_wp2_with fail
  refine HX.out.mono ?_
  rintro e w1 ⟨hor, hb1⟩
  have HB1 : Box (Below w.heap.size w w1) := boxed (below_step (by go_grown) (Nat.le_refl _) hb1)
  rcases hor with ⟨hne, -⟩ | ⟨-, tb, G, rfl, hT, hL⟩
  · exact absurd exS_ck hne
  · have hg : ∀ i, i < 1 → flt (G i) = 0 := by
      intro i hi
      rw [flt_like (hL i hi)]
      decide
    have hst := fun w' (hb : Below w1.heap.size w1 w') => styles_any (hT.below hb)
    have htx := fun w' (hb : Below w1.heap.size w1 w') => text_any (hT.below hb) hg 0 ⟨#[97, 98, 99]⟩ 3 abc_right
    have hwd := fun w' (hb : Below w1.heap.size w1 w') => twidth_any (hT.below hb) hg 0 173 (by omega)
    have e0 : ofS G 1 0 = G 0 := by simpa using ofS_in G 1 0 (by omega)
    have e1 : txw (ofS G 1 0) ⟨#[97, 98, 99]⟩ 3 = 18 := by
      rw [e0, txw_like (hL 0 (by omega)), abc_wide]
    have e2 : wdS (ofS G 1 0) 173 = 0 := by
      rw [e0, wdS_like (hL 0 (by omega)), soft_wide]
    rw [e1] at htx
    rw [e2] at hwd
    clear hb1 hT hL hg e0 e1 e2
    go_wp2_with fail
    refine (hst _ (Below.refl _ _)).mono ?_
    rintro e w' ⟨rfl, hw'⟩
    subst w'
    go_wp2_with fail
    refine (htx _ (Below.refl _ _)).mono ?_
    rintro e w2 ⟨rfl, hb2⟩
    have HB2 := boxed (below_step HB1.out (Nat.le_refl _) hb2)
    have h2 := boxed hb2
    clear hb2
    go_wp2_with fail
    refine (hwd _ h2.out).mono ?_
    rintro e w3 ⟨rfl, hb3⟩
    have HB3 := boxed (below_step HB2.out (Nat.le_refl _) hb3)
    clear hb3
    go_wp2
    go_ret
    exact ⟨rfl, HB3.out⟩
end Go.Proofs.Ytjfcpbnipkkjbaa
