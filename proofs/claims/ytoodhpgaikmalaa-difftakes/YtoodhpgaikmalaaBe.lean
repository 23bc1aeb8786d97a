/-
  Lines in memory of their own (diff.own).
-/
import Derived.Test.YtoodhpgaikmalaaBd
namespace Go.Proofs.Ytoodhpgaikmalaa
open Go.RowKit
set_option linter.unusedSimpArgs false
set_option linter.unusedVariables false

set_option maxRecDepth 100000 in
set_option maxHeartbeats 8000000 in
theorem own_any (S : Nat → Prop) (ao : Option Addr) (ks : List Key) (cap : Nat) (w : World) (h : LsAt S w ao ks) (hn : ks.length ≤ 1000) :
    Calls Try.prog 20 #[.slice ao ks.length cap] w fun e w' => e = .returned (.slice (some ⟨w.heap.size, 0, none⟩) ks.length ks.length) ∧ LO (fun b => w.heap.size ≤ b) w' (some ⟨w.heap.size, 0, none⟩) ks ∧ Below w.heap.size w w' := by
  obtain ⟨F, h, hf⟩ := h
  obtain ⟨n, hkn⟩ : ∃ n, ks.length = n := ⟨_, rfl⟩
  rw [hkn] at h hf hn ⊢
  have HK := boxed hkn
  clear hkn
  obtain ⟨i0, hi, hz0, hz1, hz2⟩ := info_parts info_line
  have hmk : ∀ W : World, (Instr.makeSlice 32 (.int .i64 (n : Int)) (.int .i64 (n : Int))).run Try.prog W = .ok (.slice (some ⟨W.heap.size, 0, none⟩) n n) (W.alloc (.cells (madeCells #[Value.string ⟨#[]⟩, .slice none 0 0, .int .i64 0, .int .i64 0, .int .i64 0, .bool false, .int .i64 0, .bool false, .bool false] (n * 9)) 37)) := by
    intro W
    have := run_makeSlice (w := W) 32 37 i0 _ Try.underlying32 hi hz0 .i64 .i64 (n : Int) (n : Int) (by omega) (by omega) (by rw [hz1]; simp; omega) (by rw [hz2]; omega) (by omega)
    rw [this, hz1]
    simp [Value.cells]
  have hsz : (madeCells #[Value.string ⟨#[]⟩, .slice none 0 0, .int .i64 0, .int .i64 0, .int .i64 0, .bool false, .int .i64 0, .bool false, .bool false] (n * 9)).size = n * 9 := by
    simp [madeCells]
  have HH := boxed h
  have HFt := boxed hf
  clear h hf
  obtain ⟨A0, hA0⟩ : ∃ A0, madeCells #[Value.string ⟨#[]⟩, .slice none 0 0, .int .i64 0, .int .i64 0, .int .i64 0, .bool false, .int .i64 0, .bool false, .bool false] (n * 9) = A0 := ⟨_, rfl⟩
  rw [hA0] at hmk hsz
  clear hA0
  obtain ⟨G, hG⟩ : ∃ G, w.heap.size = G := ⟨_, rfl⟩
  rw [hG]
  have hG2 := boxed hG
  have HST : Box (∃ F', OwnP (w.alloc (.cells A0 37)) G n 0 F F') := boxed ⟨fun _ => Lne.zero, ⟨A0, by rw [← hG]; exact heap_alloc_new w _, hsz, fun k j hk => by omega⟩, fun k hk => by omega⟩
  have HB0 : Box (Below G w (w.alloc (.cells A0 37))) := boxed (by rw [← hG]; exact (Below.refl _ _).alloc (Nat.le_refl _) _)
  go_enter Try.func20, Try.ntmps20
  go_wp2_with fail
  go_loopw [11] (fun kv wr => ∃ k : Nat, k ≤ n ∧ kv = .int .i64 (k : Int) ∧ Box (∃ F', OwnP wr G n k F F') ∧ Box (Below G w wr)) (fun kv _ => n - (intOf kv).toNat)
  case atStart => exact ⟨0, Nat.zero_le _, rfl, HST, HB0⟩
  case round =>
    obtain ⟨k, hk, rfl, HSk, HB⟩ := hrel
    by_cases hlt : k < n
    · obtain ⟨hft, hkey⟩ := HFt.out k hlt
      obtain ⟨b, off, rfl, hbw⟩ := HH.out.form (by omega)
      have hbel : Below w.heap.size w wr := by rw [hG2.out]; exact HB.out
      obtain ⟨hpr, c0, c1, c2, c3, c4, c5, c6, c7, c8⟩ := (HH.out.below hbel).get k hlt
      obtain ⟨F', hSt⟩ := HSk.out
      obtain ⟨arr, ea, hsa, hga⟩ := hSt.row
      have hGr := heap_lt ea
      have hbr : b < wr.heap.size := by have := hbel.size; omega
      have HStep := boxed (fun w' x hx k1 k2 k3 => hSt.step (w' := w') hlt x hx k1 k2 k3)
      have hk2 : (k : Int) < (n : Int) := by omega
      have t0 : decide ((k : Int) < (n : Int)) = true := decide_eq_true hk2
      have HFk := boxed hft
      have hrn := hft.rn
      have htx := hft.tx
      clear hft hkey hSt HSk HST HB0 hga hbel hG
      generalize hxx : F k = x at *
      have HXX := boxed hxx
      clear hxx
      have hl1 := laid1 wr (.cells #[.string x.tx, .slice x.ra x.rn x.rc, .int .i64 x.num, .int .i64 x.den, .int .i64 x.h, .bool x.hy, .int .i64 x.y, .bool x.bg, .bool x.en] 37)
      obtain ⟨W1, hW1⟩ : ∃ W1, wr.alloc (.cells #[.string x.tx, .slice x.ra x.rn x.rc, .int .i64 x.num, .int .i64 x.den, .int .i64 x.h, .bool x.hy, .int .i64 x.y, .bool x.bg, .bool x.en] 37) = W1 := ⟨_, rfl⟩
      rw [hW1] at hl1
      obtain ⟨e1, hb1, hz1'⟩ := hl1
      have HW1 := boxed hW1
      have HE1 := boxed e1
      have HB1 := boxed hb1
      have HPI := boxed (fun i hi => (hpr i hi).1)
      have hcp := copy10_any S x W1 (hpr.below hb1) htx (by omega)
      unfold Lne.val at hcp
      have HCP := boxed hcp
      clear hW1 e1 hb1 hcp hpr
      go_upto_region 5 with fail
      rw [HW1.out]
      obtain ⟨⟨d0, d1, d2, d3, d4, d5, d6, d7, d8⟩, -⟩ := cells9 HE1.out
      go_wp2_with fail
      refine HCP.out.mono ?_
      rintro e w2 ⟨ra, rc, rfl, ho2, hb2⟩
      have HB2 := boxed (below_step HB1.out (Nat.le_refl _) hb2)
      have HO2 := boxed ho2
      clear hb2 ho2 HCP d0 d1 d2 d3 d4 d5 d6 d7 d8 c0 c1 c2 c3 c4 c5 c6 c7 c8
      have eG := (HB2.out.block G hGr).trans ea
      obtain ⟨g0, a0, q0⟩ : ∃ v, w2.cell? ⟨G, k * 9, none⟩ = some v ∧ w2.frozen? ⟨G, k * 9, none⟩ = false := ⟨_, arr_at eG (k := k * 9) (by omega)⟩
      obtain ⟨g1, a1, q1⟩ : ∃ v, w2.cell? ⟨G, k * 9 + 1, none⟩ = some v ∧ w2.frozen? ⟨G, k * 9 + 1, none⟩ = false := ⟨_, arr_at eG (k := k * 9 + 1) (by omega)⟩
      obtain ⟨g2, a2, q2⟩ : ∃ v, w2.cell? ⟨G, k * 9 + 2, none⟩ = some v ∧ w2.frozen? ⟨G, k * 9 + 2, none⟩ = false := ⟨_, arr_at eG (k := k * 9 + 2) (by omega)⟩
      obtain ⟨g3, a3, q3⟩ : ∃ v, w2.cell? ⟨G, k * 9 + 3, none⟩ = some v ∧ w2.frozen? ⟨G, k * 9 + 3, none⟩ = false := ⟨_, arr_at eG (k := k * 9 + 3) (by omega)⟩
      obtain ⟨g4, a4, q4⟩ : ∃ v, w2.cell? ⟨G, k * 9 + 4, none⟩ = some v ∧ w2.frozen? ⟨G, k * 9 + 4, none⟩ = false := ⟨_, arr_at eG (k := k * 9 + 4) (by omega)⟩
      obtain ⟨g5, a5, q5⟩ : ∃ v, w2.cell? ⟨G, k * 9 + 5, none⟩ = some v ∧ w2.frozen? ⟨G, k * 9 + 5, none⟩ = false := ⟨_, arr_at eG (k := k * 9 + 5) (by omega)⟩
      obtain ⟨g6, a6, q6⟩ : ∃ v, w2.cell? ⟨G, k * 9 + 6, none⟩ = some v ∧ w2.frozen? ⟨G, k * 9 + 6, none⟩ = false := ⟨_, arr_at eG (k := k * 9 + 6) (by omega)⟩
      obtain ⟨g7, a7, q7⟩ : ∃ v, w2.cell? ⟨G, k * 9 + 7, none⟩ = some v ∧ w2.frozen? ⟨G, k * 9 + 7, none⟩ = false := ⟨_, arr_at eG (k := k * 9 + 7) (by omega)⟩
      obtain ⟨g8, a8, q8⟩ : ∃ v, w2.cell? ⟨G, k * 9 + 8, none⟩ = some v ∧ w2.frozen? ⟨G, k * 9 + 8, none⟩ = false := ⟨_, arr_at eG (k := k * 9 + 8) (by omega)⟩
      have hs9 := set9_grown w2 G (k * 9) (.string x.tx) (.slice ra x.rn rc) (.int .i64 x.num) (.int .i64 x.den) (.int .i64 x.h) (.bool x.hy) (.int .i64 x.y) (.bool x.bg) (.bool x.en)
      have hz2 := HB2.out.size
      have hz1'' := HB1.out.size
      have hrow := HO2.out
      have HK1 : Box (∀ c, c < wr.heap.size → c ≠ G → (set9 w2 G (k * 9) (.string x.tx) (.slice ra x.rn rc) (.int .i64 x.num) (.int .i64 x.den) (.int .i64 x.h) (.bool x.hy) (.int .i64 x.y) (.bool x.bg) (.bool x.en)).heap[c]? = wr.heap[c]?) := boxed (fun c hc hcG => (hs9.block c (by omega) (by simpa using hcG)).trans (HB2.out.block c hc))
      have HK2 : Box (∀ ar : Array Value, wr.heap[G]? = some (.cells ar 37 (0, 0)) → (set9 w2 G (k * 9) (.string x.tx) (.slice ra x.rn rc) (.int .i64 x.num) (.int .i64 x.den) (.int .i64 x.h) (.bool x.hy) (.int .i64 x.y) (.bool x.bg) (.bool x.en)).heap[G]? = some (.cells (ar9 ar (k * 9) (.string x.tx) (.slice ra x.rn rc) (.int .i64 x.num) (.int .i64 x.den) (.int .i64 x.h) (.bool x.hy) (.int .i64 x.y) (.bool x.bg) (.bool x.en)) 37 (0, 0))) := boxed (fun ar har => set9_heap _ _ _ _ _ _ _ _ _ ((HB2.out.block G hGr).trans har))
      have HK3 : Box (P2At (fun b => G < b) (set9 w2 G (k * 9) (.string x.tx) (.slice ra x.rn rc) (.int .i64 x.num) (.int .i64 x.den) (.int .i64 x.h) (.bool x.hy) (.int .i64 x.y) (.bool x.bg) (.bool x.en)) ra x.rn x.L x.Y) := boxed ((own_rvs hrow HPI.out).keep (KpH.kp (fun c hc hl => ⟨by omega, hs9.block c hl (by simp; omega)⟩)))
      have HSn := boxed (HStep.out _ { x with ra := ra, rc := rc } ⟨⟨HFk.out.tx, HFk.out.rn, own_capw hrow, HFk.out.ln⟩, rfl⟩ HK1.out HK2.out HK3.out)
      have HBn : Box (Below G w (set9 w2 G (k * 9) (.string x.tx) (.slice ra x.rn rc) (.int .i64 x.num) (.int .i64 x.den) (.int .i64 x.h) (.bool x.hy) (.int .i64 x.y) (.bool x.bg) (.bool x.en))) := boxed (HB.out.trans ((HB2.out.mono (by omega)).trans (grown_below hs9 (Nat.le_refl _) (by omega))))
      clear HK1 HK2 HK3 hs9 HStep hrow HO2
      unfold set9 at HSn HBn
      go_wp2_with fail
      go_roundw
      case rel => exact ⟨k + 1, by omega, by go_num, HSn, HBn⟩
      case measure => simp [intOf]; omega
    · obtain rfl : k = n := by omega
      have t1 : decide ((k : Int) < (k : Int)) = false := decide_eq_false (by omega)
      go_wp2_with fail
      go_ret
      obtain ⟨F', hSt⟩ := HSk.out
      exact ⟨rfl, hSt.done ks HK.out (fun i hi => (HFt.out i hi).2), HB.out⟩
end Go.Proofs.Ytoodhpgaikmalaa
