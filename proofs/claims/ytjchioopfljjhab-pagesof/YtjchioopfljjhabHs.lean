/-
  Lines put one below the other: what the program's stacked makes.
-/
import Derived.Test.YtjchioopfljjhabHr
namespace Go.Proofs.Ytjchioopfljjhab
open Go.RowKit
set_option linter.unusedSimpArgs false
set_option linter.unusedVariables false

/-- What the walks need of a line. -/
structure LnFit (x : Lne) : Prop where
  tx : x.tx.size ≤ 140737488351232
  rn : x.rn ≤ 50
  h : 0 ≤ x.h ∧ x.h ≤ 1099511627776
theorem LnsAt.get {S : Nat → Prop} {w : World} {b off n : Nat} {F : Nat → Lne} (h : LnsAt S w (some ⟨b, off, none⟩) n F) (i : Nat) (hi : i < n) : P2At S w (F i).ra (F i).rn (F i).L (F i).Y ∧
    w.cell? ⟨b, off + i * 9, none⟩ = some (.string (F i).tx) ∧ w.cell? ⟨b, off + i * 9 + 1, none⟩ = some (.slice (F i).ra (F i).rn (F i).rc) ∧ w.cell? ⟨b, off + i * 9 + 2, none⟩ = some (.int .i64 (F i).num) ∧ w.cell? ⟨b, off + i * 9 + 3, none⟩ = some (.int .i64 (F i).den) ∧ w.cell? ⟨b, off + i * 9 + 4, none⟩ = some (.int .i64 (F i).h) ∧ w.cell? ⟨b, off + i * 9 + 5, none⟩ = some (.bool (F i).hy) ∧ w.cell? ⟨b, off + i * 9 + 6, none⟩ = some (.int .i64 (F i).y) ∧ w.cell? ⟨b, off + i * 9 + 7, none⟩ = some (.bool (F i).bg) ∧ w.cell? ⟨b, off + i * 9 + 8, none⟩ = some (.bool (F i).en) := by
  obtain ⟨h1, b', off', e, -, c⟩ := h i hi
  injection e with e
  injection e with e1 e2 e3
  subst e1; subst e2
  exact ⟨h1, c⟩
theorem LnsAt.form {S : Nat → Prop} {w : World} {ao : Option Addr} {n : Nat} {F : Nat → Lne} (h : LnsAt S w ao n F) (hn : 0 < n) : ∃ b off, ao = some ⟨b, off, none⟩ ∧ b < w.heap.size := by
  obtain ⟨-, b, off, e, -, c0, -⟩ := h 0 hn
  exact ⟨b, off, e, World.block_lt_of_cell? w _ c0⟩
theorem heap_set_far {W : World} {b A k : Nat} (v : Value) (h : b ≠ A) : (W.setCell ⟨A, k, none⟩ v).heap[b]? = W.heap[b]? := heap_setCell_other W ⟨A, k, none⟩ b v (by simpa using h)
set_option maxRecDepth 100000 in
set_option maxHeartbeats 8000000 in
theorem stacked_any (S : Nat → Prop) (ao : Option Addr) (n cap : Nat) (F : Nat → Lne) (w : World) (h : LnsAt S w ao n F) (hf : ∀ j, j < n → LnFit (F j)) (hn : n ≤ 100) :
    Calls Try.prog 11 #[.slice ao n cap] w fun e w' => e = .returned (.slice (some ⟨w.heap.size, 0, none⟩) n n) ∧ (∃ R C μ, Stk w' w.heap.size n n F R C μ) ∧ Below w.heap.size w w' := by
  obtain ⟨i0, hi, hz0, hz1, hz2⟩ := info_parts info_line
  have hmk : ∀ W : World, (Instr.makeSlice 22 (.int .i64 (n : Int)) (.int .i64 (n : Int))).run Try.prog W = .ok (.slice (some ⟨W.heap.size, 0, none⟩) n n) (W.alloc (.cells (madeCells #[Value.string ⟨#[]⟩, .slice none 0 0, .int .i64 0, .int .i64 0, .int .i64 0, .bool false, .int .i64 0, .bool false, .bool false] (n * 9)) 27)) := by
    intro W
    have := run_makeSlice (w := W) 22 27 i0 _ Try.underlying22 hi hz0 .i64 .i64 (n : Int) (n : Int) (by omega) (by omega) (by rw [hz1]; simp; omega) (by rw [hz2]; omega) (by omega)
    rw [this, hz1]
    simp [Value.cells]
  have hsz : (madeCells #[Value.string ⟨#[]⟩, .slice none 0 0, .int .i64 0, .int .i64 0, .int .i64 0, .bool false, .int .i64 0, .bool false, .bool false] (n * 9)).size = n * 9 := by
    simp [madeCells]
  have HH := boxed h
  have HFt := boxed hf
  clear h hf
  obtain ⟨A0, hA0⟩ : ∃ A0, madeCells #[Value.string ⟨#[]⟩, .slice none 0 0, .int .i64 0, .int .i64 0, .int .i64 0, .bool false, .int .i64 0, .bool false, .bool false] (n * 9) = A0 := ⟨_, rfl⟩
  rw [hA0] at hmk hsz
  clear hA0
  obtain ⟨G, hG⟩ : ∃ G, w.heap.size = G := ⟨_, rfl⟩
  rw [hG]
  have hG2 := boxed hG
  have HST : Box (∃ R C μ, Stk (w.alloc (.cells A0 27)) G n 0 F R C μ) := boxed ⟨fun _ => none, fun _ => 0, fun _ => none, ⟨A0, by rw [← hG]; exact heap_alloc_new w _, hsz, fun k j hk => by omega⟩, fun k hk => by omega, rfl⟩
  have HB0 : Box (Below G w (w.alloc (.cells A0 27))) := boxed (by rw [← hG]; exact (Below.refl _ _).alloc (Nat.le_refl _) _)
  go_enter Try.func11, Try.ntmps11
  go_wp2_with fail
  go_loopw [4, 12] (fun yv kv wr => ∃ k : Nat, k ≤ n ∧ yv = .int .i64 (ys F k) ∧ kv = .int .i64 (k : Int) ∧ Box (∃ R C μ, Stk wr G n k F R C μ) ∧ Box (Below G w wr)) (fun _ kv _ => n - (intOf kv).toNat)
  case atStart => exact ⟨0, Nat.zero_le _, rfl, rfl, HST, HB0⟩
  case round =>
    obtain ⟨k, hk, rfl, rfl, HSk, HB⟩ := hrel
    by_cases hlt : k < n
    · have hft := HFt.out k hlt
      obtain ⟨b, off, rfl, hbw⟩ := HH.out.form (by omega)
      have hbel : Below w.heap.size w wr := by rw [hG2.out]; exact HB.out
      obtain ⟨hpr, c0, c1, c2, c3, c4, c5, c6, c7, c8⟩ := (HH.out.below hbel).get k hlt
      have hyb := ys_bound F k (fun j hj => (HFt.out j (by omega)).h)
      obtain ⟨R, C, μ, hSt⟩ := HSk.out
      obtain ⟨arr, ea, hsa, hga⟩ := hSt.row
      have hGr := heap_lt ea
      have hbr : b < wr.heap.size := by have := hbel.size; omega
      have HStep := boxed (fun w' ra rc k1 k2 k3 => hSt.step (w' := w') hlt ra rc k1 k2 k3)
      have HYs : Box (ys F (k + 1) = ys F k + (F k).h) := boxed rfl
      have hcl := fun W => clone_any (F k).tx W (by have := hft.tx; omega)
      have hrn := hft.rn
      have hhh := hft.h
      have HPr := boxed hpr
      clear hft hpr hSt HSk HST HB0 hga hbel hG
      generalize hxx : F k = x at *
      generalize ys F k = y at *
      clear hxx
      have hk2 : (k : Int) < (n : Int) := by omega
      have hl1 := laid1 wr (.cells #[.string x.tx, .slice x.ra x.rn x.rc, .int .i64 x.num, .int .i64 x.den, .int .i64 x.h, .bool x.hy, .int .i64 x.y, .bool x.bg, .bool x.en] 27)
      obtain ⟨W1, hW1⟩ : ∃ W1, wr.alloc (.cells #[.string x.tx, .slice x.ra x.rn x.rc, .int .i64 x.num, .int .i64 x.den, .int .i64 x.h, .bool x.hy, .int .i64 x.y, .bool x.bg, .bool x.en] 27) = W1 := ⟨_, rfl⟩
      rw [hW1] at hl1
      obtain ⟨e1, hb1, hz1'⟩ := hl1
      have HW1 := boxed hW1
      have HE1 := boxed e1
      have HB1 := boxed hb1
      clear hW1 e1 hb1
      go_upto_region 6 with fail
      rw [HW1.out]
      obtain ⟨⟨d0, d1, d2, d3, d4, d5, d6, d7, d8⟩, -⟩ := cells9 HE1.out
      go_wp2_with fail
      refine (hcl _).mono ?_
      rintro e w2 ⟨rfl, hb2⟩
      have HB2 := boxed (below_step HB1.out (Nat.le_refl _) hb2)
      have e2 := (hb2.block wr.heap.size (by omega)).trans HE1.out
      obtain ⟨W3, hW3⟩ : ∃ W3, w2.setCell ⟨wr.heap.size, 0, none⟩ (.string x.tx) = W3 := ⟨_, rfl⟩
      have HE3 : Box (W3.heap[wr.heap.size]? = some (.cells #[.string x.tx, .slice x.ra x.rn x.rc, .int .i64 x.num, .int .i64 x.den, .int .i64 x.h, .bool x.hy, .int .i64 x.y, .bool x.bg, .bool x.en] 27 (0, 0))) := boxed (by rw [← hW3]; exact arr_set _ e2)
      have HB3 : Box (Below wr.heap.size wr W3) := boxed (by rw [← hW3]; exact HB2.out.setCell (Nat.le_refl _) _)
      have HW3 := boxed hW3
      clear d0 d1 d2 d3 d4 d5 d6 d7 d8
      obtain ⟨⟨d0, d1, d2, d3, d4, d5, d6, d7, d8⟩, f0, f1, f2, f3, f4, f5, f6, f7, f8⟩ := cells9 e2
      clear hb2 e2 hcl hW3 HB2
      go_upto_region 7 with fail
      rw [HW3.out]
      clear d0 d1 d2 d3 d4 d5 d6 d7 d8 f0 f1 f2 f3 f4 f5 f6 f7 f8
      obtain ⟨⟨d0, d1, d2, d3, d4, d5, d6, d7, d8⟩, f0, f1, f2, f3, f4, f5, f6, f7, f8⟩ := cells9 HE3.out
      have hp3 := HPr.out.below HB3.out
      go_wp2_with (at_builtin; refine append_rvs rfl _ _ rfl rfl S x.ra x.rn x.rc x.L x.Y rfl hp3 (by omega) ?_)
      intro v' w4 hown hgrow
      obtain ⟨ra, rc, rfl⟩ := own_shape hown
      have HB4 := boxed (HB3.out.grown hgrow HB3.out.size (fun r e => by cases e))
      have hz3 : wr.heap.size < W3.heap.size := heap_lt HE3.out
      have e4 := (hgrow.block wr.heap.size hz3 (by simp)).trans HE3.out
      have HRb := boxed (own_runb hown)
      obtain ⟨W5, hW5⟩ : ∃ W5, w4.setCell ⟨wr.heap.size, 1, none⟩ (.slice ra x.rn rc) = W5 := ⟨_, rfl⟩
      have HE5 : Box (W5.heap[wr.heap.size]? = some (.cells #[.string x.tx, .slice ra x.rn rc, .int .i64 x.num, .int .i64 x.den, .int .i64 x.h, .bool x.hy, .int .i64 x.y, .bool x.bg, .bool x.en] 27 (0, 0))) := boxed (by rw [← hW5]; exact arr_set _ e4)
      have HB5 : Box (Below wr.heap.size wr W5) := boxed (by rw [← hW5]; exact HB4.out.setCell (Nat.le_refl _) _)
      have HRb5 : Box (RunB W5 x ra (fun b => W3.heap.size ≤ b)) := boxed (by rw [← hW5]; exact HRb.out.kept (fun b hb _ => ⟨hb, heap_set_far _ (by omega)⟩))
      have HW5 := boxed hW5
      clear d0 d1 d2 d3 d4 d5 d6 d7 d8 f0 f1 f2 f3 f4 f5 f6 f7 f8
      obtain ⟨⟨d0, d1, d2, d3, d4, d5, d6, d7, d8⟩, f0, f1, f2, f3, f4, f5, f6, f7, f8⟩ := cells9 e4
      clear hown hgrow e4 hW5 hp3 HRb HB4
      go_upto_region 8 with fail
      rw [HW5.out]
      clear d0 d1 d2 d3 d4 d5 d6 d7 d8 f0 f1 f2 f3 f4 f5 f6 f7 f8
      obtain ⟨⟨d0, d1, d2, d3, d4, d5, d6, d7, d8⟩, f0, f1, f2, f3, f4, f5, f6, f7, f8⟩ := cells9 HE5.out
      obtain ⟨W6, hW6⟩ : ∃ W6, W5.setCell ⟨wr.heap.size, 6, none⟩ (.int .i64 y) = W6 := ⟨_, rfl⟩
      have HE6 : Box (W6.heap[wr.heap.size]? = some (.cells #[.string x.tx, .slice ra x.rn rc, .int .i64 x.num, .int .i64 x.den, .int .i64 x.h, .bool x.hy, .int .i64 y, .bool x.bg, .bool x.en] 27 (0, 0))) := boxed (by rw [← hW6]; exact arr_set _ HE5.out)
      have HB6 : Box (Below wr.heap.size wr W6) := boxed (by rw [← hW6]; exact HB5.out.setCell (Nat.le_refl _) _)
      have HRb6 : Box (RunB W6 x ra (fun b => W3.heap.size ≤ b)) := boxed (by rw [← hW6]; exact HRb5.out.kept (fun b hb _ => ⟨hb, heap_set_far _ (by omega)⟩))
      have HW6 := boxed hW6
      clear hW6
      go_upto_region 9 with fail
      rw [HW6.out]
      clear d0 d1 d2 d3 d4 d5 d6 d7 d8 f0 f1 f2 f3 f4 f5 f6 f7 f8
      obtain ⟨⟨d0, d1, d2, d3, d4, d5, d6, d7, d8⟩, -⟩ := cells9 HE6.out
      have eG := (HB6.out.block G hGr).trans ea
      have hGne : G ≠ wr.heap.size := by omega
      have hGne2 : wr.heap.size ≠ G := by omega
      obtain ⟨g0, a0, q0⟩ : ∃ v, W6.cell? ⟨G, k * 9, none⟩ = some v ∧ W6.frozen? ⟨G, k * 9, none⟩ = false := ⟨_, arr_at eG (k := k * 9) (by omega)⟩
      obtain ⟨g1, a1, q1⟩ : ∃ v, W6.cell? ⟨G, k * 9 + 1, none⟩ = some v ∧ W6.frozen? ⟨G, k * 9 + 1, none⟩ = false := ⟨_, arr_at eG (k := k * 9 + 1) (by omega)⟩
      obtain ⟨g2, a2, q2⟩ : ∃ v, W6.cell? ⟨G, k * 9 + 2, none⟩ = some v ∧ W6.frozen? ⟨G, k * 9 + 2, none⟩ = false := ⟨_, arr_at eG (k := k * 9 + 2) (by omega)⟩
      obtain ⟨g3, a3, q3⟩ : ∃ v, W6.cell? ⟨G, k * 9 + 3, none⟩ = some v ∧ W6.frozen? ⟨G, k * 9 + 3, none⟩ = false := ⟨_, arr_at eG (k := k * 9 + 3) (by omega)⟩
      obtain ⟨g4, a4, q4⟩ : ∃ v, W6.cell? ⟨G, k * 9 + 4, none⟩ = some v ∧ W6.frozen? ⟨G, k * 9 + 4, none⟩ = false := ⟨_, arr_at eG (k := k * 9 + 4) (by omega)⟩
      obtain ⟨g5, a5, q5⟩ : ∃ v, W6.cell? ⟨G, k * 9 + 5, none⟩ = some v ∧ W6.frozen? ⟨G, k * 9 + 5, none⟩ = false := ⟨_, arr_at eG (k := k * 9 + 5) (by omega)⟩
      obtain ⟨g6, a6, q6⟩ : ∃ v, W6.cell? ⟨G, k * 9 + 6, none⟩ = some v ∧ W6.frozen? ⟨G, k * 9 + 6, none⟩ = false := ⟨_, arr_at eG (k := k * 9 + 6) (by omega)⟩
      obtain ⟨g7, a7, q7⟩ : ∃ v, W6.cell? ⟨G, k * 9 + 7, none⟩ = some v ∧ W6.frozen? ⟨G, k * 9 + 7, none⟩ = false := ⟨_, arr_at eG (k := k * 9 + 7) (by omega)⟩
      obtain ⟨g8, a8, q8⟩ : ∃ v, W6.cell? ⟨G, k * 9 + 8, none⟩ = some v ∧ W6.frozen? ⟨G, k * 9 + 8, none⟩ = false := ⟨_, arr_at eG (k := k * 9 + 8) (by omega)⟩
      have hs9 := set9_grown W6 G (k * 9) (.string x.tx) (.slice ra x.rn rc) (.int .i64 x.num) (.int .i64 x.den) (.int .i64 x.h) (.bool x.hy) (.int .i64 y) (.bool x.bg) (.bool x.en)
      have HK1 : Box (∀ c, c < wr.heap.size → c ≠ G → (set9 W6 G (k * 9) (.string x.tx) (.slice ra x.rn rc) (.int .i64 x.num) (.int .i64 x.den) (.int .i64 x.h) (.bool x.hy) (.int .i64 y) (.bool x.bg) (.bool x.en)).heap[c]? = wr.heap[c]?) := boxed (fun c hc hcG => (hs9.block c (by have := HB6.out.size; omega) (by simpa using hcG)).trans (HB6.out.block c hc))
      have HK2 : Box (∀ ar : Array Value, wr.heap[G]? = some (.cells ar 27 (0, 0)) → (set9 W6 G (k * 9) (.string x.tx) (.slice ra x.rn rc) (.int .i64 x.num) (.int .i64 x.den) (.int .i64 x.h) (.bool x.hy) (.int .i64 y) (.bool x.bg) (.bool x.en)).heap[G]? = some (.cells (ar9 ar (k * 9) (.string x.tx) (.slice ra x.rn rc) (.int .i64 x.num) (.int .i64 x.den) (.int .i64 x.h) (.bool x.hy) (.int .i64 y) (.bool x.bg) (.bool x.en)) 27 (0, 0))) := boxed (fun ar har => set9_heap _ _ _ _ _ _ _ _ _ ((HB6.out.block G hGr).trans har))
      have HK3 : Box (RunB (set9 W6 G (k * 9) (.string x.tx) (.slice ra x.rn rc) (.int .i64 x.num) (.int .i64 x.den) (.int .i64 x.h) (.bool x.hy) (.int .i64 y) (.bool x.bg) (.bool x.en)) x ra (fun b => wr.heap.size ≤ b)) := boxed (HRb6.out.kept (fun c hc hl => ⟨by omega, hs9.block c hl (by simp; omega)⟩))
      have HSn := boxed (HStep.out _ ra rc HK1.out HK2.out HK3.out)
      have HBn : Box (Below G w (set9 W6 G (k * 9) (.string x.tx) (.slice ra x.rn rc) (.int .i64 x.num) (.int .i64 x.den) (.int .i64 x.h) (.bool x.hy) (.int .i64 y) (.bool x.bg) (.bool x.en))) := boxed (HB.out.trans ((HB6.out.mono (by omega)).trans (grown_below hs9 (Nat.le_refl _) (by have := HB6.out.size; omega))))
      clear HK1 HK2 HK3 hs9 HStep HRb6 HRb5
      unfold set9 at HSn HBn
      have hyh : wrap64 (y + x.h) = y + x.h := by unfold wrap64; omega
      go_wp2_with fail
      go_roundw
      case rel => exact ⟨k + 1, by omega, by rw [HYs.out], by go_num, HSn, HBn⟩
      case measure => simp [intOf]; omega
    · obtain rfl : k = n := by omega
      have t1 : decide ((k : Int) < (k : Int)) = false := decide_eq_false (by omega)
      go_wp2_with fail
      go_ret
      exact ⟨rfl, HSk.out, HB.out⟩
end Go.Proofs.Ytjchioopfljjhab
