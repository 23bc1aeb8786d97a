/-
  What lines cost: what the document's Cost answers.
-/
import Derived.Test.YtkoaoejlbkdkgabEo
namespace Go.Proofs.Ytkoaoejlbkdkgab
open Go.RowKit
set_option linter.unusedSimpArgs false
set_option linter.unusedVariables false

theorem heap3 (w : World) (A B C : Obj) : (((w.alloc A).alloc B).alloc C).heap[w.heap.size]? = some A ∧ (((w.alloc A).alloc B).alloc C).heap[w.heap.size + 1]? = some B ∧ (((w.alloc A).alloc B).alloc C).heap[w.heap.size + 1 + 1]? = some C ∧ Below w.heap.size w (((w.alloc A).alloc B).alloc C) ∧ (((w.alloc A).alloc B).alloc C).heap.size = w.heap.size + 3 := by
  refine ⟨?_, ?_, ?_, ?_, by simp⟩
  · rw [Below.heap_alloc _ _ _ (by simp; omega), Below.heap_alloc _ _ _ (by simp)]; exact heap_alloc_new w A
  · rw [Below.heap_alloc _ _ _ (by simp)]
    have := heap_alloc_new (w.alloc A) B
    simpa using this
  · have := heap_alloc_new ((w.alloc A).alloc B) C
    simpa using this
  · exact (((Below.refl _ _).alloc (Nat.le_refl _) _).alloc (by simp) _).alloc (by simp; omega) _
set_option maxRecDepth 100000 in
set_option maxHeartbeats 8000000 in
theorem refcost_any (s : Stg) (f : Ft) (x : Itm) (ahead : Int) (flag last : Bool) (w : World) (ha : -1000 ≤ ahead ∧ ahead ≤ 1000) (hb : -1000 ≤ f.cls ∧ f.cls ≤ 1000) :
    Calls Try.prog 8 #[s.val, f.val, x.val, .int .i64 ahead, .bool flag, .bool last] w fun e w' => e = .returned (.int .i64 (cst s f x ahead flag last)) ∧ Below w.heap.size w w' := by
  obtain ⟨s1, s2, s3, s4, s5, s6, s7⟩ := s
  obtain ⟨f1, f2, f3, f4, f5⟩ := f
  obtain ⟨x1, x2, x3, x4, x5, x6, x7, x8, x9⟩ := x
  simp only at hb
  generalize HC : cst _ _ _ _ _ _ = C at *
  replace HC := boxed HC
  unfold Stg.val Ft.val Itm.val
  simp only
  cases f5
  rotate_left
  · go_enter Try.func8, Try.ntmps8
    go_wp2_with fail
    go_ret
    exact ⟨ret_int (by rw [← HC.out]; rfl), by go_grown⟩
  have hd := fun w => refdem_any s2 f3 x6 w
  obtain ⟨D, hD⟩ : ∃ D, dm s2 f3 x6 = D := ⟨_, rfl⟩
  rw [hD] at hd
  replace hD := boxed hD
  have A1 : ad ahead 1 = ahead + 1 := by unfold ad; rw [cl_same ahead (by omega) (by omega), cl_same 1 (by omega) (by omega), cl_same _ (by omega) (by omega)]
  have A2 : ad f4 1 = f4 + 1 := by unfold ad; rw [cl_same f4 (by omega) (by omega), cl_same 1 (by omega) (by omega), cl_same _ (by omega) (by omega)]
  have p1 := fun w => refadd_any ahead 1 w
  have p2 := fun w => refadd_any f4 1 w
  rw [A1] at p1
  rw [A2] at p2
  have HA := heap3 w (.cells #[.int .i64 s1, .int .i64 s2, .int .i64 s3, .int .i64 s4, .int .i64 s5, .int .i64 s6, .int .i64 s7] 23) (.cells #[.int .i64 f1, .int .i64 f2, .int .i64 f3, .int .i64 f4, .bool false] 25) (.cells #[.int .i64 x1, .int .i64 x2, .int .i64 x3, .int .i64 x4, .bool x5, .int .i64 x6, .bool x7, .int .i64 x8, .int .i64 x9] 27)
  replace HA := boxed HA
  obtain ⟨u, hu⟩ : ∃ u, (decide (0 ≤ ahead) && un ahead f4) = u := ⟨_, rfl⟩
  replace hu := boxed hu
  have hw : (decide (0 ≤ ahead) = false ∧ u = false) ∨ (decide (0 ≤ ahead) = true ∧ decide (ahead + 1 < f4) = true ∧ u = true) ∨ (decide (0 ≤ ahead) = true ∧ decide (ahead + 1 < f4) = false ∧ decide (f4 + 1 < ahead) = true ∧ u = true) ∨ (decide (0 ≤ ahead) = true ∧ decide (ahead + 1 < f4) = false ∧ decide (f4 + 1 < ahead) = false ∧ u = false) := by
    rw [← hu.out]
    unfold un
    cases decide (0 ≤ ahead) <;> cases decide (ahead + 1 < f4) <;> cases decide (f4 + 1 < ahead) <;> simp
  clear ha hb p1 p2
  rcases hw with ⟨t0, rfl⟩ | ⟨t0, t1, rfl⟩ | ⟨t0, t1, t2, rfl⟩ | ⟨t0, t1, t2, rfl⟩
  all_goals cases flag
  all_goals cases x7
  all_goals cases last
  all_goals
    go_enter Try.func8, Try.ntmps8
    go_wp2_with fail
    refine (hd _).mono ?_
    rintro e w1 ⟨rfl, hb1⟩
    have b0 := cell_of_row w1 w.heap.size 2 _ _ _ ((hb1.block _ (by have := HA.out.2.2.2.2; omega)).trans HA.out.1)
    have b1 := cell_of_row w1 w.heap.size 3 _ _ _ ((hb1.block _ (by have := HA.out.2.2.2.2; omega)).trans HA.out.1)
    have b2 := cell_of_row w1 w.heap.size 4 _ _ _ ((hb1.block _ (by have := HA.out.2.2.2.2; omega)).trans HA.out.1)
    have b3 := cell_of_row w1 (w.heap.size + 1) 3 _ _ _ ((hb1.block _ (by have := HA.out.2.2.2.2; omega)).trans HA.out.2.1)
    have b4 := cell_of_row w1 (w.heap.size + 1 + 1) 6 _ _ _ ((hb1.block _ (by have := HA.out.2.2.2.2; omega)).trans HA.out.2.2.1)
    simp at b0 b1 b2 b3 b4
    have HB1 := boxed (HA.out.2.2.2.1.trans (hb1.mono HA.out.2.2.2.1.size))
    clear hb1 HA hd
    go_wp2_with fail
    go_quiet ((go_at_call 20; exact Calls.quiet_of_same (refadd_any _ _ _)))
    go_wp2_with (go_at_call 20; refine (refadd_any _ _ _).mono ?_; rintro e w' ⟨rfl, hw'⟩; subst w')
    all_goals
      go_ret
      refine ⟨ret_int ?_, HB1.out.trans (bel_drewN _ _ _)⟩
      rw [← HC.out]
      have hD := hD.out
      have hu := hu.out
      simp [cst, hD, hu]
end Go.Proofs.Ytkoaoejlbkdkgab
