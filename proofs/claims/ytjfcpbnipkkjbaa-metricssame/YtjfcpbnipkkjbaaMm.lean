/-
  Sums that stay within bounds, as the program's Add and the document's answer them; and how wide a right text is, as the program's Text does.
-/
import Derived.Test.YtjfcpbnipkkjbaaMl
import Derived.Lib.OthersKept
namespace Go.Proofs.Ytjfcpbnipkkjbaa
open Go.RowKit
set_option linter.unusedSimpArgs false
set_option linter.unusedVariables false

def cl (a : Int) : Int := if a < -1152921504606846976 then -1152921504606846976 else if 1152921504606846976 < a then 1152921504606846976 else a

theorem cl_le (a : Int) : -1152921504606846976 ≤ cl a ∧ cl a ≤ 1152921504606846976 := by unfold cl; split <;> (try split) <;> omega
theorem cl_zero (a : Int) : cl a = 0 ↔ a = 0 := by unfold cl; split <;> (try split) <;> omega
theorem cl_same (a : Int) (h1 : -1152921504606846976 ≤ a) (h2 : a ≤ 1152921504606846976) : cl a = a := by unfold cl; split <;> (try split) <;> omega
theorem cl_cl (a : Int) : cl (cl a) = cl a := cl_same _ (cl_le a).1 (cl_le a).2
theorem cl_neg (a : Int) : cl a < 0 ↔ a < 0 := by unfold cl; split <;> (try split) <;> omega
theorem cl_pos (a : Int) : 0 < cl a ↔ 0 < a := by unfold cl; split <;> (try split) <;> omega

set_option maxHeartbeats 400000 in
theorem clamp_any (a : Int) (w : World) :
    Calls Try.prog 49 #[.int .i64 a] w fun e w' => e = .returned (.int .i64 (cl a)) ∧ w' = w := by
  unfold cl
  by_cases h1 : a < -1152921504606846976
  · go_enter Try.func49, Try.ntmps49
    go_wp2
    go_ret
    exact ⟨by simp [h1], rfl⟩
  · by_cases h2 : 1152921504606846976 < a
    · go_enter Try.func49, Try.ntmps49
      go_wp2
      go_ret
      exact ⟨by simp [h1, h2], rfl⟩
    · go_enter Try.func49, Try.ntmps49
      go_wp2
      go_ret
      exact ⟨by simp [h1, h2], rfl⟩

def ad (a b : Int) : Int := cl (cl a + cl b)
theorem ad_le (a b : Int) : -1152921504606846976 ≤ ad a b ∧ ad a b ≤ 1152921504606846976 := cl_le _
set_option maxHeartbeats 400000 in
theorem refclamp_any (a : Int) (w : World) :
    Calls Try.prog 53 #[.int .i64 a] w fun e w' => e = .returned (.int .i64 (cl a)) ∧ w' = w := by
  unfold cl
  by_cases h1 : a < -1152921504606846976
  · go_enter Try.func53, Try.ntmps53
    go_wp2
    go_ret
    exact ⟨by simp [h1], rfl⟩
  · by_cases h2 : 1152921504606846976 < a
    · go_enter Try.func53, Try.ntmps53
      go_wp2
      go_ret
      exact ⟨by simp [h1, h2], rfl⟩
    · go_enter Try.func53, Try.ntmps53
      go_wp2
      go_ret
      exact ⟨by simp [h1, h2], rfl⟩

set_option maxHeartbeats 400000 in
theorem refadd_any (a b : Int) (w : World) :
    Calls Try.prog 40 #[.int .i64 a, .int .i64 b] w fun e w' => e = .returned (.int .i64 (ad a b)) ∧ w' = w := by
  unfold ad
  have h1 := cl_le a
  have h2 := cl_le b
  go_enter Try.func40, Try.ntmps40
  go_wp2_with (go_at_call 53; refine (refclamp_any _ _).mono ?_; rintro e w' ⟨rfl, rfl⟩)
  go_ret
  exact ⟨rfl, rfl⟩

set_option maxHeartbeats 400000 in
theorem add_any (a b : Int) (w : World) :
    Calls Try.prog 38 #[.int .i64 a, .int .i64 b] w fun e w' => e = .returned (.int .i64 (ad a b)) ∧ w' = w := by
  unfold ad
  have h1 := cl_le a
  have h2 := cl_le b
  go_enter Try.func38, Try.ntmps38
  go_wp2_with (go_at_call 49; refine (clamp_any _ _).mono ?_; rintro e w' ⟨rfl, rfl⟩)
  go_ret
  exact ⟨rfl, rfl⟩


/-- How wide the first k runes of a text are together. -/
def txw (s : Sty) (t : ByteArray) : Nat → Int
  | 0 => 0
  | k + 1 => ad (txw s t k) (wdS s (rn t k))
theorem txw_le (s : Sty) (t : ByteArray) (k : Nat) : -1152921504606846976 ≤ txw s t k ∧ txw s t k ≤ 1152921504606846976 := by
  cases k with
  | zero => simp [txw]
  | succ k => exact ad_le _ _
theorem txw_like {s g : Sty} (h : Like s g) (t : ByteArray) (k : Nat) : txw g t k = txw s t k := by
  induction k with
  | zero => rfl
  | succ k ih => simp only [txw]; rw [ih, wdS_like h]

set_option maxRecDepth 100000 in
set_option maxHeartbeats 2000000 in
theorem text_any {B : Nat} {w : World} {tb n : Nat} {G : Nat → Sty} (h : TabAt B w tb n G) (hg : ∀ i, i < n → flt (G i) = 0) (a : Int) (t : ByteArray) (N : Nat) (hN : Right t N) :
    Calls Try.prog 25 #[.pointer (some ⟨tb, 0, none⟩), .int .i64 a, .string t] w fun e w' => e = .returned (.int .i64 (txw (ofS G n a) t N)) ∧ Below w.heap.size w w' := by
  have hl := look_any h a
  have HW := boxed (fun w' (hb : Below w.heap.size w w') r hrr => width_any (fun b => B ≤ b) (ofS G n a) r w' (h.of a).1 ((h.of a).2.below hb) (rise_ofS hg a) hrr)
  have HT : Box (∀ k, txw (ofS G n a) t (k + 1) = ad (txw (ofS G n a) t k) (wdS (ofS G n a) (rn t k))) := boxed (fun k => rfl)
  have HT0 : Box (txw (ofS G n a) t 0 = 0) := boxed rfl
  have HN := boxed hN
  simp only [Sty.val] at *
  clear h hg hN
  generalize txw (ofS G n a) t = TX at *
  generalize ofS G n a = s at *
  go_enter Try.func25, Try.ntmps25
  go_wp2_with fail
  refine hl.mono ?_
  rintro e w1 ⟨rfl, hb1⟩
  have HB1 := boxed hb1
  have hz1 := hb1.size
  clear hb1 hl
  go_wp2
  go_loopw [8, 10] (fun v _ wr => ∃ k : Nat, k ≤ N ∧ v = .int .i64 (TX k) ∧ Box (wr.heap[w1.heap.size + 1]? = some (.stringIter t (it t k))) ∧ Box (∀ j, wr.cell? ⟨w1.heap.size, j, none⟩ = (#[.int .i64 s.h, .int .i64 s.sp, .int .i64 s.st, .int .i64 s.sh, .int .i64 s.hy, .int .i64 s.ot, .slice s.ra s.rn s.rc, .bool s.keep] : Array Value)[j]?) ∧
      Box (Below w.heap.size w wr)) (fun _ _ wr => t.size - wr.iterPos (w1.heap.size + 1))
  case atStart =>
    refine ⟨0, Nat.zero_le _, by rw [HT0.out], boxed ?_, boxed ?_, boxed ?_⟩
    · have := World.iter_heap (w1.alloc (.cells #[.int .i64 s.h, .int .i64 s.sp, .int .i64 s.st, .int .i64 s.sh, .int .i64 s.hy, .int .i64 s.ot, .slice s.ra s.rn s.rc, .bool s.keep] 35)) t 0
      rw [World.size_alloc] at this
      exact this
    · intro j
      refine Eq.trans ?_ (cell_first w1 _ 35 j)
      exact (bel_iter (w1.alloc (.cells #[.int .i64 s.h, .int .i64 s.sp, .int .i64 s.st, .int .i64 s.sh, .int .i64 s.hy, .int .i64 s.ot, .slice s.ra s.rn s.rc, .bool s.keep] 35)) t 0).cell (p := ⟨w1.heap.size, j, none⟩) (by simp)
    · exact below_step (HB1.out.alloc hz1 _) (Nat.le_refl _) (bel_iter _ _ _)
  case round =>
    obtain ⟨k, hk, rfl, HI, HC, HB⟩ := hrel
    by_cases hlt : k < N
    · have hp := HN.out.1.1 k hlt
      have hpos := dc_pos t _ hp
      have hnx := fun ty => Lib.run_next_any_at (P := Try.prog) wr (w1.heap.size + 1) t (it t k) ty HI.out hpos
      rw [decode_dc t _ hp] at hnx
      have hrn : (((dc t (it t k)).1 : Nat) : Int) = (rn t k : Int) := rfl
      have hit : it t k + (dc t (it t k)).2 = it t (k + 1) := rfl
      rw [hrn, hit] at hnx
      have hrl := rn_le t k
      have hI2 := Lib.iterAt_heap wr (w1.heap.size + 1) t (it t k) (it t (k + 1)) HI.out
      have hC2 : ∀ j, (wr.iterAt (w1.heap.size + 1) t (it t (k + 1))).cell? ⟨w1.heap.size, j, none⟩ = (#[.int .i64 s.h, .int .i64 s.sp, .int .i64 s.st, .int .i64 s.sh, .int .i64 s.hy, .int .i64 s.ot, .slice s.ra s.rn s.rc, .bool s.keep] : Array Value)[j]? := by
        intro j
        rw [← HC.out j]
        exact World.cell?_of_block (Lib.iterAt_other wr _ _ t _ (by show w1.heap.size ≠ w1.heap.size + 1; omega))
      have HB2 : Box (Below w.heap.size w (wr.iterAt (w1.heap.size + 1) t (it t (k + 1)))) := boxed (Lib.below_iterAt HB.out (by omega) _ _)
      have HIT : Box (it t k < it t (k + 1) ∧ it t k < t.size) := boxed ⟨by rw [← hit]; omega, hpos⟩
      have hwd := HW.out _ HB2.out (rn t k : Int) (by omega)
      have HTk := boxed (HT.out k)
      have hpo : wr.iterPos (w1.heap.size + 1) = it t k := by unfold World.iterPos; rw [HI.out]
      have HPO := boxed hpo
      have HI2 := boxed hI2
      clear hp hpos hit hpo hI2 HC hrn
      generalize rn t k = r at *
      generalize wdS s (r : Int) = WD at *
      generalize wr.iterAt (w1.heap.size + 1) t (it t (k + 1)) = W1 at *
      have hadd := fun w => add_any (TX k) WD w
      go_wp2_with fail
      refine hwd.mono ?_
      rintro e w2 ⟨rfl, hb2⟩
      have hC3 : ∀ j, w2.cell? ⟨w1.heap.size, j, none⟩ = (#[.int .i64 s.h, .int .i64 s.sp, .int .i64 s.st, .int .i64 s.sh, .int .i64 s.hy, .int .i64 s.ot, .slice s.ra s.rn s.rc, .bool s.keep] : Array Value)[j]? := by
        intro j
        rw [← hC2 j]
        have hq : w1.heap.size + 1 < W1.heap.size := (Array.getElem?_eq_some_iff.1 HI2.out).1
        exact hb2.cell (p := ⟨w1.heap.size, j, none⟩) (by show w1.heap.size < _; omega)
      have HI3 : Box (w2.heap[w1.heap.size + 1]? = some (.stringIter t (it t (k + 1)))) := boxed (by
        rw [hb2.block _ ((Array.getElem?_eq_some_iff.1 HI2.out).1)]
        exact HI2.out)
      have HC3 := boxed hC3
      have HB3 := boxed (below_step HB2.out (Nat.le_refl _) hb2)
      clear hwd hb2 hC2 hC3 hnx
      go_wp2_with fail
      refine (hadd _).mono ?_
      rintro e w' ⟨rfl, hw'⟩
      subst w'
      clear hadd
      go_wp2
      go_roundw
      case rel => exact ⟨k + 1, by omega, by rw [HTk.out], HI3, HC3, HB3⟩
      case measure =>
        have e1 : w2.iterPos (w1.heap.size + 1) = it t (k + 1) := by unfold World.iterPos; rw [HI3.out]
        rw [e1, HPO.out]
        have := HIT.out
        omega
    · have e : k = N := by omega
      subst e
      have hnx := fun ty => Lib.run_next_end_at (P := Try.prog) wr (w1.heap.size + 1) t (it t k) ty HI.out (by rw [HN.out.2]; omega)
      go_wp2
      go_ret
      exact ⟨rfl, HB.out⟩
end Go.Proofs.Ytjfcpbnipkkjbaa
