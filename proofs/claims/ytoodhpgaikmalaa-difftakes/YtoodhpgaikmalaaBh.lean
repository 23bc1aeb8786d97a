/-
  Pages in memory of their own (diff.Copy).
-/
import Derived.Test.YtoodhpgaikmalaaBg
namespace Go.Proofs.Ytoodhpgaikmalaa
open Go.RowKit
set_option linter.unusedSimpArgs false
set_option linter.unusedVariables false

theorem info_page : (Try.prog.info? 34).map (fun i => (i.zero, i.size, i.bytes)) = some (some (.agg #[.slice none 0 0]), 1, 24) := by kernel_rfl
/-- Copies of pages under way, in a row that lies at G. -/
def CpyP (w : World) (G n m : Nat) (ps : List (List Key)) : Prop := ∃ arr : Array Value, w.heap[G]? = some (.cells arr 34 (0, 0)) ∧ arr.size = n ∧ ∀ (i : Nat) (ks : List Key), i < m → ps[i]? = some ks → ∃ la lc, arr[i]? = some (Value.slice la ks.length lc) ∧ Sl la lc ks.length ∧ LO (fun b => G < b) w la ks
theorem CpyP.step {w w' : World} {G n m : Nat} {ps : List (List Key)} (h : CpyP w G n m ps) (hm : m < n) (ks : List Key) (hk : ps[m]? = some ks) (la : Option Addr) (lc : Nat)
    (k1 : ∀ b, b < w.heap.size → b ≠ G → w'.heap[b]? = w.heap[b]?)
    (k2 : ∀ arr : Array Value, w.heap[G]? = some (.cells arr 34 (0, 0)) → w'.heap[G]? = some (.cells (arr.setIfInBounds m (.slice la ks.length lc)) 34 (0, 0)))
    (k3 : Sl la lc ks.length) (k4 : LO (fun b => G < b) w' la ks) : CpyP w' G n (m + 1) ps := by
  obtain ⟨arr, e0, hs, hg⟩ := h
  refine ⟨_, k2 arr e0, by simpa using hs, fun i ls hi hl => ?_⟩
  by_cases c : i = m
  · subst c
    rw [hk] at hl
    injection hl with hl
    subst hl
    exact ⟨la, lc, by rw [Array.getElem?_setIfInBounds_self_of_lt (by omega)], k3, k4⟩
  · obtain ⟨la', lc', h1, h2, h3⟩ := hg i ls (by omega) hl
    refine ⟨la', lc', by rw [Array.getElem?_setIfInBounds_ne (by omega)]; exact h1, h2, h3.keep (fun b hb hl => ⟨hb, k1 b hl (by omega)⟩)⟩
theorem CpyP.done {w : World} {G : Nat} {ps : List (List Key)} (h : CpyP w G ps.length ps.length ps) (hn : ps.length ≤ 1000) : PgO G w (some ⟨G, 0, none⟩) ps.length ps := by
  obtain ⟨arr, e0, hs, hg⟩ := h
  refine ⟨arr.toList, ⟨by simpa using hs, Or.inr ⟨G, ps.length, arr, rfl, Nat.le_refl _, e0, Nat.le_refl _, by unfold maxLen; omega, by omega, ?_⟩⟩, ?_⟩
  · rw [List.take_of_length_le (by simp; omega)]
  · intro i ks hi
    obtain ⟨la, lc, h1, h2, h3⟩ := hg i ks (List.getElem?_eq_some_iff.1 hi).1 hi
    refine ⟨la, lc, by simpa using h1, h2, h3.keep (kph_weak (fun b hb => ⟨Nat.le_of_lt hb, ?_⟩))⟩
    simp [Value.ownBlock]; omega
set_option maxRecDepth 100000 in
set_option maxHeartbeats 8000000 in
theorem copy14_any (S : Nat → Prop) (ao : Option Addr) (ps : List (List Key)) (cap : Nat) (w : World) (h : PsAt S w ao ps) (hn : ps.length ≤ 1000) (hm : ∀ (i : Nat) (ks : List Key), ps[i]? = some ks → ks.length ≤ 1000) :
    Calls Try.prog 9 #[.slice ao ps.length cap] w fun e w' => e = .returned (.slice (some ⟨w.heap.size, 0, none⟩) ps.length ps.length) ∧ PgO w.heap.size w' (some ⟨w.heap.size, 0, none⟩) ps.length ps ∧ Below w.heap.size w w' := by
  obtain ⟨i0, hi, hz0, hz1, hz2⟩ := info_parts info_page
  have HDn := boxed (fun W G (hc : CpyP W G ps.length ps.length ps) => hc.done hn)
  have HPs := boxed (fun i (hi : i < ps.length) => (⟨_, List.getElem?_eq_getElem hi⟩ : ∃ ks, ps[i]? = some ks))
  have HM := boxed hm
  have HH := boxed h
  obtain ⟨n, hkn⟩ : ∃ n, ps.length = n := ⟨_, rfl⟩
  rw [hkn] at hn HDn HPs ⊢
  clear hkn h hm
  have hmk : ∀ W : World, (Instr.makeSlice 22 (.int .i64 (n : Int)) (.int .i64 (n : Int))).run Try.prog W = .ok (.slice (some ⟨W.heap.size, 0, none⟩) n n) (W.alloc (.cells (madeCells #[Value.slice none 0 0] n) 34)) := by
    intro W
    have := run_makeSlice (w := W) 22 34 i0 _ Try.underlying22 hi hz0 .i64 .i64 (n : Int) (n : Int) (by omega) (by omega) (by rw [hz1]; simp; omega) (by rw [hz2]; omega) (by omega)
    rw [this, hz1]
    simp [Value.cells]
  have hsz : (madeCells #[Value.slice none 0 0] n).size = n := by simp [madeCells]
  obtain ⟨A0, hA0⟩ : ∃ A0, madeCells #[Value.slice none 0 0] n = A0 := ⟨_, rfl⟩
  rw [hA0] at hmk hsz
  clear hA0
  obtain ⟨G, hG⟩ : ∃ G, w.heap.size = G := ⟨_, rfl⟩
  rw [hG]
  have hG2 := boxed hG
  have HST : Box (CpyP (w.alloc (.cells A0 34)) G n 0 ps) := boxed ⟨A0, by rw [← hG]; exact heap_alloc_new w _, hsz, fun i ks hk => by omega⟩
  have HB0 : Box (Below G w (w.alloc (.cells A0 34))) := boxed (by rw [← hG]; exact (Below.refl _ _).alloc (Nat.le_refl _) _)
  go_enter Try.func9, Try.ntmps9
  go_wp2_with fail
  go_loopw [11] (fun kv wr => ∃ k : Nat, k ≤ n ∧ kv = .int .i64 (k : Int) ∧ Box (CpyP wr G n k ps) ∧ Box (Below G w wr)) (fun kv _ => n - (intOf kv).toNat)
  case atStart => exact ⟨0, Nat.zero_le _, rfl, HST, HB0⟩
  case round =>
    obtain ⟨k, hk, rfl, HSk, HB⟩ := hrel
    by_cases hlt : k < n
    · obtain ⟨ks, hks⟩ := HPs.out k hlt
      obtain ⟨b, off, la, lc, rfl, -, c0, hsl, hls⟩ := HH.out k ks hks
      have hbel : Below w.heap.size w wr := by rw [hG2.out]; exact HB.out
      have c0 := hold hbel c0
      have hls := hls.below hbel
      have hkm := HM.out k ks hks
      obtain ⟨arr, ea, hsa, hga⟩ := HSk.out
      have hGr := heap_lt ea
      have HStep := boxed (fun w' la lc k1 k2 k3 k4 => HSk.out.step (w' := w') hlt ks hks la lc k1 k2 k3 k4)
      have hk2 : (k : Int) < (n : Int) := by omega
      have t0 : decide ((k : Int) < (n : Int)) = true := decide_eq_true hk2
      clear hbel hG hga HSk HST HB0 hks
      obtain ⟨m, hm⟩ : ∃ m, ks.length = m := ⟨_, rfl⟩
      have HM9 := boxed hm
      have hl1 := laid1 wr (.cells #[.slice la m lc] 34)
      obtain ⟨W1, hW1⟩ : ∃ W1, wr.alloc (.cells #[.slice la m lc] 34) = W1 := ⟨_, rfl⟩
      rw [hW1] at hl1
      obtain ⟨e1, hb1, hz1'⟩ := hl1
      have HW1 := boxed hW1
      have HB1 := boxed hb1
      have d0 : W1.cell? ⟨wr.heap.size, 0, none⟩ = some (.slice la m lc) := by rw [cell_of_row _ _ _ _ _ _ e1]; rfl
      have HCP := boxed (own_any S la ks lc W1 (hls.below hb1) hkm)
      rw [hm] at HCP c0 hkm HStep
      have hz1q : wr.heap.size < W1.heap.size := by omega
      clear hW1 e1 hb1 hls hm hz1'
      go_upto_region 5 with fail
      rw [HW1.out]
      go_wp2_with fail
      refine HCP.out.mono ?_
      rintro e w2 ⟨rfl, hlo, hb2⟩
      have HB2 := boxed (below_step HB1.out (Nat.le_refl _) hb2)
      have HLO := boxed hlo
      have eG := (HB2.out.block G hGr).trans ea
      obtain ⟨g0, a0, q0⟩ : ∃ v, w2.cell? ⟨G, k, none⟩ = some v ∧ w2.frozen? ⟨G, k, none⟩ = false := ⟨_, arr_at eG (k := k) (by omega)⟩
      have hz2 := HB2.out.size
      have hz3 := hb2.size
      have HLT := boxed (show W1.heap.size < w2.heap.size ∨ m = 0 from by
        by_cases c : 0 < m
        · obtain ⟨b', off', e, hl, -⟩ := HLO.out.1.form (by rw [HM9.out]; exact c)
          injection e with e
          injection e with e1 e2 e3
          subst e1
          exact Or.inl hl
        · exact Or.inr (by omega))
      clear hb2 hlo HCP d0 c0
      obtain ⟨W3, hW3⟩ : ∃ W3, w2.setCell ⟨G, k, none⟩ (.slice (some ⟨W1.heap.size, 0, none⟩) m m) = W3 := ⟨_, rfl⟩
      have hg3 : w2.grownBy W3 (some G) := by rw [← hW3]; exact grown_set _ _ _ _
      have HSn : Box (CpyP W3 G n (k + 1) ps) := boxed (HStep.out W3 (some ⟨W1.heap.size, 0, none⟩) m
        (fun c hc hcG => (hg3.block c (by omega) (by simpa using hcG)).trans (HB2.out.block c hc))
        (fun ar har => by rw [← hW3]; exact arr_set _ ((HB2.out.block G hGr).trans har))
        ⟨Nat.le_refl _, fun e => by cases e⟩
        (HLO.out.keep (fun c hc hl => ⟨by omega, hg3.block c hl (by simp; omega)⟩)))
      have HBn : Box (Below G w W3) := boxed (HB.out.trans ((HB2.out.mono (by omega)).trans (grown_below hg3 (Nat.le_refl _) (by omega))))
      have HW3 := boxed hW3
      clear hg3 hW3 HStep HLO
      go_upto_region 6 with fail
      rw [HW3.out]
      go_wp2_with fail
      go_roundw
      case rel => exact ⟨k + 1, by omega, by go_num, HSn, HBn⟩
      case measure => simp [intOf]; omega
    · obtain rfl : k = n := by omega
      have t1 : decide ((k : Int) < (k : Int)) = false := decide_eq_false (by omega)
      go_wp2_with fail
      go_ret
      exact ⟨rfl, HDn.out _ _ HSk.out, HB.out⟩
end Go.Proofs.Ytoodhpgaikmalaa
