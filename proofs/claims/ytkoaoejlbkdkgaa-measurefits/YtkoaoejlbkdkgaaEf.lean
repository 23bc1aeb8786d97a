/-
  What the document's class and Set answer.
-/
import Derived.Test.YtkoaoejlbkdkgaaEe
import Derived.Test.YtkoaoejlbkdkgaaRb
namespace Go.Proofs.Ytkoaoejlbkdkgaa
open Go.RowKit
set_option linter.unusedSimpArgs false
set_option linter.unusedVariables false

def cls (b : Int) (l : Bool) : Int := if b ≤ 12 then 1 else if l = false then 0 else if 99 < b then 3 else 2
theorem cls_t (b : Int) : cls b true = loo b := by unfold cls loo; simp; split <;> split <;> (try split) <;> omega
theorem cls_f (b : Int) : cls b false = tig b := by unfold cls tig; simp; split <;> split <;> omega
theorem class_any (b : Int) (l : Bool) (w : World) : Calls Try.prog 51 #[.int .i64 b, .bool l] w fun e w' => e = .returned (.int .i64 (cls b l)) ∧ w' = w := by
  unfold cls
  by_cases h1 : b ≤ 12
  · go_enter Try.func51, Try.ntmps51
    go_wp2
    go_ret
    exact ⟨ret_int (by simp [h1]), rfl⟩
  cases l
  · go_enter Try.func51, Try.ntmps51
    go_wp2
    go_ret
    exact ⟨ret_int (by simp [h1]), rfl⟩
  by_cases h2 : 99 < b
  all_goals
    go_enter Try.func51, Try.ntmps51
    go_wp2
    go_ret
    exact ⟨ret_int (by simp [h1, h2]), rfl⟩
/-- The rest of a line that lacks something, as the document has it. -/
theorem stF_ref (l s : Int) (hl : 0 < l) : stF l s = ⟨lo1 l s, lo2 l s, bd l s, loo (bd l s), false⟩ := by
  unfold stF
  by_cases h : s = 0
  · rw [if_pos h]
    subst h
    have h1 : ¬ cl l ≤ 0 := by have := cl_pos l; omega
    have e : bd l 0 = 10000 := by unfold bd; rw [if_neg h1, if_pos (by decide)]
    rw [e]
    rfl
  · rw [if_neg h]
theorem heap3 (w : World) (A B C : Obj) : (((w.alloc A).alloc B).alloc C).heap[w.heap.size]? = some A ∧ (((w.alloc A).alloc B).alloc C).heap[w.heap.size + 1]? = some B ∧ (((w.alloc A).alloc B).alloc C).heap[w.heap.size + 1 + 1]? = some C ∧ Below w.heap.size w (((w.alloc A).alloc B).alloc C) ∧ (((w.alloc A).alloc B).alloc C).heap.size = w.heap.size + 3 := by
  refine ⟨?_, ?_, ?_, ?_, by simp⟩
  · rw [Below.heap_alloc _ _ _ (by simp; omega), Below.heap_alloc _ _ _ (by simp)]; exact heap_alloc_new w A
  · rw [Below.heap_alloc _ _ _ (by simp)]
    have := heap_alloc_new (w.alloc A) B
    simpa using this
  · have := heap_alloc_new ((w.alloc A).alloc B) C
    simpa using this
  · exact (((Below.refl _ _).alloc (Nat.le_refl _) _).alloc (by simp) _).alloc (by simp; omega) _
set_option maxRecDepth 100000 in
set_option maxHeartbeats 2000000 in
theorem refset_up (s : Sm) (width : Int) (w : World) (h : SmOk s width) (h1 : 0 < width - s.w) (h2 : ¬ 0 < s.f) : Calls Try.prog 27 #[s.val, .int .i64 width] w fun e w' => e = .returned (setF s width).val ∧ Below w.heap.size w w' := by
  have hE : setF s width = ⟨lo1 (width - s.w) s.st, lo2 (width - s.w) s.st, bd (width - s.w) s.st, loo (bd (width - s.w) s.st), false⟩ := by
    unfold setF
    rw [if_neg (by omega), if_pos h1, stF_ref _ _ h1]
  rw [hE]
  clear hE
  unfold SmOk at h
  obtain ⟨sw, st, sh, sf⟩ := s
  simp only at h h1 h2 ⊢
  unfold Sm.val Ft.val
  simp only
  obtain ⟨S, hS⟩ : ∃ S, width - sw = S := ⟨_, rfl⟩
  rw [hS] at h1 ⊢
  have HB : S ≤ 288230376151711744 := by omega
  have t1 : (S == 0) = false := by simp; omega
  obtain ⟨wA, hA⟩ : ∃ wA, ((w.alloc (.cells #[.int .i64 sw, .int .i64 st, .int .i64 sh, .int .i64 sf] 42)).alloc (.cells #[.int .i64 0, .int .i64 0, .int .i64 0, .int .i64 0, .bool false] 52)).alloc (.cells #[.int .i64 0, .int .i64 0, .int .i64 0, .int .i64 0, .bool false] 52) = wA := ⟨_, rfl⟩
  have HA := boxed (heap3 w (.cells #[.int .i64 sw, .int .i64 st, .int .i64 sh, .int .i64 sf] 42) (.cells #[.int .i64 0, .int .i64 0, .int .i64 0, .int .i64 0, .bool false] 52) (.cells #[.int .i64 0, .int .i64 0, .int .i64 0, .int .i64 0, .bool false] 52))
  rw [hA] at HA
  replace hA := boxed hA
  go_enter Try.func27, Try.ntmps27
  go_wp2_with fail
  rw [hA.out]
  refine (refbad_any _ _ _).mono ?_
  rintro e w1 ⟨rfl, hb1⟩
  obtain ⟨⟨a0, a1, a2, a3⟩, -⟩ := cells4 ((hb1.block _ (by have := HA.out.2.2.2.2; omega)).trans HA.out.1)
  obtain ⟨⟨b0, b1, b2, b3, b4⟩, y0, y1, y2, y3, y4⟩ := cells5 ((hb1.block _ (by have := HA.out.2.2.2.2; omega)).trans HA.out.2.1)
  obtain ⟨⟨c0, c1, c2, c3, c4⟩, z0, z1, z2, z3, z4⟩ := cells5 ((hb1.block _ (by have := HA.out.2.2.2.2; omega)).trans HA.out.2.2.1)
  have hz : w.heap.size + 3 ≤ w1.heap.size := by have := HA.out.2.2.2.2; have := hb1.size; omega
  have HB1 := boxed (HA.out.2.2.2.1.trans (hb1.mono HA.out.2.2.2.1.size))
  clear hb1 hA HA
  go_wp2_with fail
  refine (reflowest_any _ _ _).mono ?_
  rintro e w2 ⟨rfl, n, rfl⟩
  go_wp2_with (go_at_call 51; refine (class_any _ _ _).mono ?_; rintro e w' ⟨rfl, hw'⟩; subst w'; rw [cls_t])
  refine bodyPost_ret (v := .agg #[.int .i64 (lo1 S st), .int .i64 (lo2 S st), .int .i64 (bd S st), .int .i64 (loo (bd S st)), .bool false]) (by simp [results, Try.results27, go_sem, b0, b1, b2, b3, b4, y0, y1, y2, y3, y4]) rfl ⟨rfl, ?_⟩
  have hb := HB1.out
  have hsz := hb.size
  repeat' (first | (with_reducible exact hb) | (with_reducible refine Below.setCell ?_ ?_ _) | (with_reducible refine Below.trans ?_ (bel_drewN _ _ _)) | (simp only; omega) | omega)
set_option maxRecDepth 100000 in
set_option maxHeartbeats 2000000 in
theorem refset_down (s : Sm) (width : Int) (w : World) (h : SmOk s width) (h1 : width - s.w < 0) (h2 : -(width - s.w) ≤ s.sh) : Calls Try.prog 27 #[s.val, .int .i64 width] w fun e w' => e = .returned (setF s width).val ∧ Below w.heap.size w w' := by
  have hE : setF s width = ⟨lo1 (width - s.w) s.sh, lo2 (width - s.w) s.sh, bd (-(width - s.w)) s.sh, tig (bd (-(width - s.w)) s.sh), false⟩ := by
    unfold setF shF
    rw [if_neg (by omega), if_neg (by omega), if_neg (by omega), Int.neg_neg]
  rw [hE]
  clear hE
  unfold SmOk at h
  obtain ⟨sw, st, sh, sf⟩ := s
  simp only at h h1 h2 ⊢
  unfold Sm.val Ft.val
  simp only
  obtain ⟨S, hS⟩ : ∃ S, width - sw = S := ⟨_, rfl⟩
  rw [hS] at h1 h2 ⊢
  have HB : -288230376151711744 ≤ S := by omega
  have t2 : decide (0 < S) = false := decide_eq_false (by omega)
  have t1 : (S == 0) = false := by simp; omega
  obtain ⟨wA, hA⟩ : ∃ wA, ((w.alloc (.cells #[.int .i64 sw, .int .i64 st, .int .i64 sh, .int .i64 sf] 42)).alloc (.cells #[.int .i64 0, .int .i64 0, .int .i64 0, .int .i64 0, .bool false] 52)).alloc (.cells #[.int .i64 0, .int .i64 0, .int .i64 0, .int .i64 0, .bool false] 52) = wA := ⟨_, rfl⟩
  have HA := boxed (heap3 w (.cells #[.int .i64 sw, .int .i64 st, .int .i64 sh, .int .i64 sf] 42) (.cells #[.int .i64 0, .int .i64 0, .int .i64 0, .int .i64 0, .bool false] 52) (.cells #[.int .i64 0, .int .i64 0, .int .i64 0, .int .i64 0, .bool false] 52))
  rw [hA] at HA
  replace hA := boxed hA
  go_enter Try.func27, Try.ntmps27
  go_wp2_with fail
  rw [hA.out]
  refine (refbad_any _ _ _).mono ?_
  rintro e w1 ⟨rfl, hb1⟩
  obtain ⟨⟨a0, a1, a2, a3⟩, -⟩ := cells4 ((hb1.block _ (by have := HA.out.2.2.2.2; omega)).trans HA.out.1)
  obtain ⟨⟨b0, b1, b2, b3, b4⟩, y0, y1, y2, y3, y4⟩ := cells5 ((hb1.block _ (by have := HA.out.2.2.2.2; omega)).trans HA.out.2.1)
  obtain ⟨⟨c0, c1, c2, c3, c4⟩, z0, z1, z2, z3, z4⟩ := cells5 ((hb1.block _ (by have := HA.out.2.2.2.2; omega)).trans HA.out.2.2.1)
  have hz : w.heap.size + 3 ≤ w1.heap.size := by have := HA.out.2.2.2.2; have := hb1.size; omega
  have HB1 := boxed (HA.out.2.2.2.1.trans (hb1.mono HA.out.2.2.2.1.size))
  clear hb1 hA HA
  go_wp2_with fail
  refine (reflowest_any _ _ _).mono ?_
  rintro e w2 ⟨rfl, n, rfl⟩
  go_wp2_with (go_at_call 51; refine (class_any _ _ _).mono ?_; rintro e w' ⟨rfl, hw'⟩; subst w'; rw [cls_f])
  refine bodyPost_ret (v := .agg #[.int .i64 (lo1 S sh), .int .i64 (lo2 S sh), .int .i64 (bd (-S) sh), .int .i64 (tig (bd (-S) sh)), .bool false]) (by simp [results, Try.results27, go_sem, b0, b1, b2, b3, b4, y0, y1, y2, y3, y4]) rfl ⟨rfl, ?_⟩
  have hb := HB1.out
  have hsz := hb.size
  repeat' (first | (with_reducible exact hb) | (with_reducible refine Below.setCell ?_ ?_ _) | (with_reducible refine Below.trans ?_ (bel_drewN _ _ _)) | (simp only; omega) | omega)
set_option maxRecDepth 100000 in
set_option maxHeartbeats 2000000 in
theorem refset_zero (s : Sm) (width : Int) (w : World) (h : SmOk s width) (h1 : width - s.w = 0 ∨ (0 < width - s.w ∧ 0 < s.f)) : Calls Try.prog 27 #[s.val, .int .i64 width] w fun e w' => e = .returned (setF s width).val ∧ Below w.heap.size w w' := by
  have hE : setF s width = ⟨0, 1, 0, 1, false⟩ := by
    unfold setF
    rw [if_pos h1]
  rw [hE]
  clear hE
  unfold SmOk at h
  obtain ⟨sw, st, sh, sf⟩ := s
  simp only at h h1 ⊢
  unfold Sm.val Ft.val
  simp only
  obtain ⟨S, hS⟩ : ∃ S, width - sw = S := ⟨_, rfl⟩
  rw [hS] at h1
  have HB : S ≤ 288230376151711744 := by omega
  by_cases c : S = 0
  · subst c
    clear h1
    go_enter Try.func27, Try.ntmps27
    go_wp2_with fail
    refine bodyPost_ret (v := .agg #[.int .i64 0, .int .i64 1, .int .i64 0, .int .i64 1, .bool false]) (by simp [results, Try.results27, go_sem]) rfl ⟨rfl, by go_grown⟩
  · have t1 : (S == 0) = false := by simpa using c
    have t2 : 0 < S := by omega
    have t3 : 0 < sf := by omega
    clear h1 c
    go_enter Try.func27, Try.ntmps27
    go_wp2_with fail
    refine bodyPost_ret (v := .agg #[.int .i64 0, .int .i64 1, .int .i64 0, .int .i64 1, .bool false]) (by simp [results, Try.results27, go_sem]) rfl ⟨rfl, by go_grown⟩
end Go.Proofs.Ytkoaoejlbkdkgaa
