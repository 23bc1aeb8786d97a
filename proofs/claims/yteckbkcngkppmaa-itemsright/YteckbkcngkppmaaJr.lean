/-
  The law's awake answers true.
-/
import Derived.Test.YteckbkcngkppmaaJq
import Derived.Test.YteckbkcngkppmaaJf
namespace Go.Proofs.Yteckbkcngkppmaa
open Go.RowKit
set_option linter.unusedSimpArgs false
set_option linter.unusedVariables false

theorem nx_like {s g : Sty} (h : Like s g) (L : List Itm) (sy r y f t : Int) : nx g L sy r y f t = nx s L sy r y f t := by
  unfold nx
  rw [h.sp, h.st, h.sh, h.hy, wdS_like h]
theorem bs_like {F G : Nat → Sty} {n : Nat} (h : ∀ i, i < n → Like (F i) (G i)) (t : ByteArray) (Y : Nat → Int) (k : Nat) : bs G n t Y k = bs F n t Y k := by
  induction k with
  | zero => rfl
  | succ k ih =>
    simp only [bs]
    rw [ih, nx_like (ofS_like h _)]
theorem fin_like {F G : Nat → Sty} {n : Nat} (h : ∀ i, i < n → Like (F i) (G i)) (t : ByteArray) (Y : Nat → Int) (N : Nat) : fin G n t Y N = fin F n t Y N := by
  unfold fin
  rw [bs_like h]

/-- The page's example. -/
def exS : Sty := ⟨10, 6, 0, 0, 6, 6, none, 0, 0, false, fun _ => ⟨0, 0, 0⟩⟩
def exT : ByteArray := ⟨#[97, 45, 98]⟩
def exL : List Itm := [bxI 12 0 2, pnI 0 50 true 2 2, bxI 6 2 3, flI 3, pnI 0 (-10000) false 3 3]
theorem exS_ok : StyOk exS := by
  refine ⟨?_, ?_, ?_, ?_, ?_, ?_, ⟨Nat.le_refl _, by show 0 * 24 ≤ 140737488351232; omega⟩, fun _ => ⟨rfl, rfl⟩⟩ <;> (unfold I64 exS; simp)
theorem exS_ck : ckc (fun _ => exS) 1 = 0 := by decide
theorem exT_cnt : Cnt exT 3 := by unfold Cnt exT; decide +kernel
theorem exT_ck : ck exT 3 1 1 (fun _ => 3) (fun _ => 0) = 0 := by decide +kernel
theorem exT_fin : fin (fun _ => exS) 1 exT (fun a => sta (fun _ => 3) (fun _ => 0) 1 0 (a : Nat)) 3 = exL := by kernel_rfl
theorem exL_rgt : rgt (nth exL) 5 = true := by decide +kernel
theorem exS_at (w : World) : StysAt (fun _ => True) (w.alloc (.cells #[.int .i64 10, .int .i64 6, .int .i64 0, .int .i64 0, .int .i64 6, .int .i64 6, .slice none 0 0, .bool false] 53)) (some ⟨w.heap.size, 0, none⟩) 1 (fun _ => exS) := by
  intro i hi
  obtain rfl : i = 0 := by omega
  refine ⟨exS_ok, fun j hj => absurd hj (by show ¬ j < 0; omega), w.heap.size, 0, rfl, trivial, ?_⟩
  exact ⟨cell_first _ _ _ _, cell_first _ _ _ _, cell_first _ _ _ _, cell_first _ _ _ _, cell_first _ _ _ _, cell_first _ _ _ _, cell_first _ _ _ _, cell_first _ _ _ _⟩
theorem exR_at (w : World) : RunsAt (w.alloc (.cells #[.int .i64 3, .int .i64 0] 49)) (some ⟨w.heap.size, 0, none⟩) 1 (fun _ => 3) (fun _ => 0) := by
  intro i hi
  obtain rfl : i = 0 := by omega
  exact ⟨⟨by unfold I64; simp, by unfold I64; simp⟩, w.heap.size, 0, rfl, cell_first _ _ _ _, cell_first _ _ _ _⟩

set_option maxRecDepth 100000 in
set_option maxHeartbeats 2000000 in
theorem awake_any (w : World) : Calls Try.prog 8 #[] w fun e w' => e = .returned (.bool true) ∧ Below w.heap.size w w' := by
  have HX := boxed (table_any (fun _ => True) (some ⟨w.heap.size, 0, none⟩) 1 1 (fun _ => exS) _ (exS_at w))
  go_enter Try.func8, Try.ntmps8
  go_wp2_with fail
  refine HX.out.mono ?_
  rintro e w1 ⟨hor, hb1⟩
  have HB1 : Box (Below w.heap.size w w1) := boxed (below_step (by go_grown) (Nat.le_refl _) hb1)
  rcases hor with ⟨hne, -⟩ | ⟨-, tb, G, rfl, hT, hL⟩
  · exact absurd exS_ck hne
  have hg : ∀ i, i < 1 → flt (G i) = 0 := by
    intro i hi
    rw [flt_like (hL i hi)]
    decide
  have hbd := build_any (hT.below ((Below.refl w1.heap.size w1).alloc (Nat.le_refl _) (.cells #[.int .i64 3, .int .i64 0] 49))) hg exT 3 exT_cnt (by decide) (some ⟨w1.heap.size, 0, none⟩) 1 1 (fun _ => 3) (fun _ => 0) (exR_at w1) (by unfold maxLen; omega)
  rw [exT_ck, fin_like hL, exT_fin] at hbd
  unfold exT at hbd
  have HBD := boxed hbd
  clear hbd hb1 hT hL hg HX
  go_wp2_with fail
  refine HBD.out.mono ?_
  rintro e w2 ⟨hor, hb2⟩
  have HB2 : Box (Below w.heap.size w w2) := boxed (below_step (HB1.out.alloc HB1.out.size _) (Nat.le_refl _) hb2)
  clear hb2 HBD
  rcases hor with ⟨hne, -⟩ | ⟨-, ao, cap, rfl, hown⟩
  · exact absurd rfl hne
  have hlen : exL.length = 5 := rfl
  rw [hlen] at hown ⊢
  have hits := own_its hown rfl
  have HIT := boxed hits
  obtain ⟨b0, o0, e0, -, -, c01, -⟩ := hits 0 (by omega)
  obtain ⟨b1, o1, e1, -, -, -, -, -, -, c15, c16, -⟩ := hits 1 (by omega)
  obtain ⟨b4, o4, e4, -, d0, d1, d2, d3, d4, d5, d6, d7, d8⟩ := hits 4 (by omega)
  subst e0
  injection e1 with e1; injection e1 with e1a e1b
  injection e4 with e4; injection e4 with e4a e4b
  subst e1a; subst e1b; subst e4a; subst e4b
  simp [nth, exL, bxI, pnI, flI] at c01 c15 c16 d0 d1 d2 d3 d4 d5 d6 d7 d8
  have hfo := fun w => forced_any (pnI 0 (-10000) false 3 3) w
  have hfv : forc (pnI 0 (-10000) false 3 3) = true := by decide
  rw [hfv] at hfo
  simp only [Itm.val, pnI] at hfo
  have hri := fun w' (hb : Below w2.heap.size w2 w') => right_any _ (some ⟨b0, o0, none⟩) 5 cap (nth exL) w' (HIT.out.below hb) (by unfold maxLen; omega)
  rw [exL_rgt] at hri
  simp only [rcode] at hri
  clear hits hown hfv hlen
  go_wp2_with fail
  refine (hfo _).mono ?_
  rintro e w3 ⟨rfl, hb3⟩
  have HB3 := boxed (below_step HB2.out (Nat.le_refl _) hb3)
  have H3 := boxed hb3
  clear hb3 hfo c01 c15 c16 d0 d1 d2 d3 d4 d5 d6 d7 d8
  go_wp2_with fail
  refine (hri _ H3.out).mono ?_
  rintro e w4 ⟨rfl, hb4⟩
  have HB4 := boxed (below_step HB3.out (Nat.le_refl _) hb4)
  clear hb4 hri
  go_wp2
  go_ret
  exact ⟨rfl, HB4.out⟩
end Go.Proofs.Yteckbkcngkppmaa
