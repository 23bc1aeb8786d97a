/-
  How a line's glue is set: what the program's loose, tight, over, stretched, shrunk and Set answer.
-/
import Derived.Test.YtkmeeblkckfepabGreatEb
import Derived.Test.YtkmeeblkckfepabGreatEd
import Derived.Test.YtkmeeblkckfepabGreatR
namespace Go.Proofs.YtkmeeblkckfepabGreat
open Go.RowKit
set_option linter.unusedSimpArgs false
set_option linter.unusedVariables false

theorem ret_val {a b : Value} (h : a = b) : Ending.returned a = .returned b := by rw [h]
theorem loose_any (n : Int) (w : World) : Calls Tryz.prog 85 #[.int .i64 n] w fun e w' => e = .returned (.int .i64 (loo n)) ∧ w' = w := by
  unfold loo
  by_cases h1 : 99 < n
  · go_enter Tryz.func85, Tryz.ntmps85
    go_wp2
    go_ret
    exact ⟨ret_int (by simp [h1]), rfl⟩
  by_cases h2 : 12 < n
  all_goals
    go_enter Tryz.func85, Tryz.ntmps85
    go_wp2
    go_ret
    exact ⟨ret_int (by simp [h1, h2]), rfl⟩
theorem tight_any (n : Int) (w : World) : Calls Tryz.prog 87 #[.int .i64 n] w fun e w' => e = .returned (.int .i64 (tig n)) ∧ w' = w := by
  unfold tig
  by_cases h2 : 12 < n
  all_goals
    go_enter Tryz.func87, Tryz.ntmps87
    go_wp2
    go_ret
    exact ⟨ret_int (by simp [h2]), rfl⟩
set_option maxRecDepth 100000 in
set_option maxHeartbeats 1000000 in
theorem over_any (s : Int) (w : World) : Calls Tryz.prog 86 #[.int .i64 s] w fun e w' => e = .returned (ovF s).val ∧ Below w.heap.size w w' := by
  cases h1 : (s == 0)
  · have e : ¬ s = 0 := by simpa using h1
    go_enter Tryz.func86, Tryz.ntmps86
    go_wp2
    refine bodyPost_ret (v := (ovF s).val) (by simp [results, Tryz.results86, go_sem, ovF, Ft.val, e]) rfl ⟨rfl, by go_grown⟩
  · have e : s = 0 := by simpa using h1
    go_enter Tryz.func86, Tryz.ntmps86
    go_wp2
    refine bodyPost_ret (v := (ovF 0).val) (by simp [results, Tryz.results86, go_sem, ovF, Ft.val, e]) rfl ⟨by rw [e], by go_grown⟩
set_option maxRecDepth 100000 in
set_option maxHeartbeats 1000000 in
theorem stretched_any (l s : Int) (w : World) : Calls Tryz.prog 78 #[.int .i64 l, .int .i64 s] w fun e w' => e = .returned (stF l s).val ∧ Below w.heap.size w w' := by
  cases h1 : (s == 0)
  · have e : ¬ s = 0 := by simpa using h1
    unfold stF
    rw [if_neg e]
    unfold Ft.val
    clear e
    obtain ⟨w0, hw0, hb0, hz0, HN⟩ := res5 w _ rfl
    replace HN := boxed HN
    clear hb0
    go_enter Tryz.func78, Tryz.ntmps78
    go_wp2_with fail
    refine (lowest_any _ _ _).mono ?_
    rintro e w1 ⟨rfl, n, hw⟩
    have HB := boxed (show Below w0.heap.size w0 w1 by subst hw; exact bel_drewN _ _ _)
    clear hw
    go_wp2_with fail
    refine (bad_any _ _ _).mono ?_
    rintro e w2 ⟨rfl, hb2⟩
    have HB2 := boxed (below_step HB.out (Nat.le_refl _) hb2)
    clear hb2
    obtain ⟨⟨⟨d0, d1, d2, d3, d4⟩, g0, g1, g2, g3, g4⟩, HQ, HF, -⟩ := HN.out _ HB2.out (.int .i64 (lo1 l s)) (.int .i64 (lo2 l s)) (.int .i64 (bd l s)) (.int .i64 (loo (bd l s))) (.bool false)
    replace HQ := boxed HQ
    replace HF := boxed HF
    go_wp2_with (go_at_call 85; refine (loose_any _ _).mono ?_; rintro e w' ⟨rfl, hw'⟩; subst w')
    refine bodyPost_ret (v := .agg #[.int .i64 (lo1 l s), .int .i64 (lo2 l s), .int .i64 (bd l s), .int .i64 (loo (bd l s)), .bool false]) (by have q := HQ.out; simp only [put5] at q; simp [results, Tryz.results78, go_sem, q]) rfl ⟨rfl, HF.out⟩
  · have e : s = 0 := by simpa using h1
    unfold stF
    rw [if_pos e]
    unfold Ft.val
    clear e
    go_enter Tryz.func78, Tryz.ntmps78
    go_wp2
    refine bodyPost_ret (v := .agg #[.int .i64 0, .int .i64 1, .int .i64 10000, .int .i64 3, .bool false]) (by simp [results, Tryz.results78, go_sem]) rfl ⟨rfl, by go_grown⟩
set_option maxRecDepth 100000 in
set_option maxHeartbeats 1000000 in
theorem shrunk_any (x s : Int) (w : World) (hx : -1152921504606846976 ≤ x ∧ x ≤ 1152921504606846976) : Calls Tryz.prog 79 #[.int .i64 x, .int .i64 s] w fun e w' => e = .returned (shF x s).val ∧ Below w.heap.size w w' := by
  obtain ⟨w0, hw0, hb0, hz0, HN⟩ := res5 w _ rfl
  replace HN := boxed HN
  clear hb0
  by_cases h1 : s < x
  · unfold shF
    rw [if_pos h1]
    obtain ⟨f0, f1, f2, f3, f4, hF⟩ : ∃ a b c d e, ovF s = ⟨a, b, c, d, e⟩ := ⟨_, _, _, _, _, rfl⟩
    have hov := fun w => over_any s w
    rw [hF] at hov ⊢
    unfold Ft.val at hov ⊢
    simp only at hov ⊢
    clear hF
    go_enter Tryz.func79, Tryz.ntmps79
    go_wp2_with fail
    refine (hov _).mono ?_
    rintro e w1 ⟨rfl, hb⟩
    have HB := boxed hb
    clear hb hov
    obtain ⟨⟨⟨d0, d1, d2, d3, d4⟩, g0, g1, g2, g3, g4⟩, HQ, HF, -⟩ := HN.out _ HB.out (.int .i64 f0) (.int .i64 f1) (.int .i64 f2) (.int .i64 f3) (.bool f4)
    replace HQ := boxed HQ
    replace HF := boxed HF
    go_wp2_with fail
    refine bodyPost_ret (v := .agg #[.int .i64 f0, .int .i64 f1, .int .i64 f2, .int .i64 f3, .bool f4]) (by have q := HQ.out; simp only [put5] at q; simp [results, Tryz.results79, go_sem, q]) rfl ⟨rfl, HF.out⟩
  · unfold shF
    rw [if_neg h1]
    unfold Ft.val
    go_enter Tryz.func79, Tryz.ntmps79
    go_wp2_with fail
    refine (lowest_any _ _ _).mono ?_
    rintro e w1 ⟨rfl, n, hw⟩
    have HB := boxed (show Below w0.heap.size w0 w1 by subst hw; exact bel_drewN _ _ _)
    clear hw
    go_wp2_with fail
    refine (bad_any _ _ _).mono ?_
    rintro e w2 ⟨rfl, hb2⟩
    have HB2 := boxed (below_step HB.out (Nat.le_refl _) hb2)
    clear hb2
    obtain ⟨⟨⟨d0, d1, d2, d3, d4⟩, g0, g1, g2, g3, g4⟩, HQ, HF, -⟩ := HN.out _ HB2.out (.int .i64 (lo1 (-x) s)) (.int .i64 (lo2 (-x) s)) (.int .i64 (bd x s)) (.int .i64 (tig (bd x s))) (.bool false)
    replace HQ := boxed HQ
    replace HF := boxed HF
    go_wp2_with (go_at_call 87; refine (tight_any _ _).mono ?_; rintro e w' ⟨rfl, hw'⟩; subst w')
    refine bodyPost_ret (v := .agg #[.int .i64 (lo1 (-x) s), .int .i64 (lo2 (-x) s), .int .i64 (bd x s), .int .i64 (tig (bd x s)), .bool false]) (by have q := HQ.out; simp only [put5] at q; simp [results, Tryz.results79, go_sem, q]) rfl ⟨rfl, HF.out⟩
/-- Numbers that a sum and a width may be. -/
def SmOk (s : Sm) (width : Int) : Prop := (-144115188075855872 ≤ s.w ∧ s.w ≤ 144115188075855872) ∧ (-144115188075855872 ≤ width ∧ width ≤ 144115188075855872)
set_option maxRecDepth 100000 in
set_option maxHeartbeats 1000000 in
theorem set_any (s : Sm) (width : Int) (w : World) (h : SmOk s width) : Calls Tryz.prog 72 #[s.val, .int .i64 width] w fun e w' => e = .returned (setF s width).val ∧ Below w.heap.size w w' := by
  unfold SmOk at h
  obtain ⟨sw, st, sh, sf⟩ := s
  simp only at h
  unfold Sm.val setF
  simp only
  have HS : cl (cl width - cl sw) = width - sw := by rw [cl_same width (by omega) (by omega), cl_same sw (by omega) (by omega), cl_same _ (by omega) (by omega)]
  have HB : -288230376151711744 ≤ width - sw ∧ width - sw ≤ 288230376151711744 := by omega
  clear h
  by_cases h1 : width - sw = 0
  · rw [if_pos (.inl h1)]
    unfold Ft.val
    have HS2 : cl (cl width - cl sw) = 0 := by rw [HS, h1]
    clear HS HB h1
    go_enter Tryz.func72, Tryz.ntmps72
    go_wp2_with (go_at_call 77; refine (sub_any _ _ _).mono ?_; rintro e w' ⟨rfl, hw'⟩; subst w'; rw [HS2])
    refine bodyPost_ret (v := .agg #[.int .i64 0, .int .i64 1, .int .i64 0, .int .i64 1, .bool false]) (by simp [results, Tryz.results72, go_sem]) rfl ⟨rfl, by go_grown⟩
  by_cases h2 : 0 < width - sw
  · by_cases h3 : 0 < sf
    · rw [if_pos (.inr ⟨h2, h3⟩)]
      unfold Ft.val
      generalize width - sw = S at *
      have t1 : (S == 0) = false := by simpa using h1
      clear h1
      go_enter Tryz.func72, Tryz.ntmps72
      go_wp2_with (go_at_call 77; refine (sub_any _ _ _).mono ?_; rintro e w' ⟨rfl, hw'⟩; subst w'; rw [HS])
      refine bodyPost_ret (v := .agg #[.int .i64 0, .int .i64 1, .int .i64 0, .int .i64 1, .bool false]) (by simp [results, Tryz.results72, go_sem]) rfl ⟨rfl, by go_grown⟩
    · rw [if_neg (by omega), if_pos h2]
      generalize width - sw = S at *
      have t1 : (S == 0) = false := by simpa using h1
      clear h1
      obtain ⟨f0, f1, f2, f3, f4, hF⟩ : ∃ a b c d e, stF S st = ⟨a, b, c, d, e⟩ := ⟨_, _, _, _, _, rfl⟩
      have hov := fun w => stretched_any S st w
      rw [hF] at hov ⊢
      unfold Ft.val at hov ⊢
      simp only at hov ⊢
      clear hF
      obtain ⟨wS, hwS⟩ : ∃ wS, w.alloc (.cells #[.int .i64 sw, .int .i64 st, .int .i64 sh, .int .i64 sf] 88) = wS := ⟨_, rfl⟩
      have hbS : Below w.heap.size w wS := by rw [← hwS]; exact (Below.refl _ _).alloc (Nat.le_refl _) _
      have hzS : wS.heap.size = w.heap.size + 1 := by rw [← hwS]; simp
      obtain ⟨w0, hw0, hb0, hz0, HN⟩ := res5 wS _ hzS
      rw [← hwS] at hw0
      replace hw0 := boxed hw0
      replace HN := boxed HN
      replace hbS := boxed hbS
      clear hb0 hwS
      go_enter Tryz.func72, Tryz.ntmps72
      go_wp2_with (go_at_call 77; refine (sub_any _ _ _).mono ?_; rintro e w' ⟨rfl, hw'⟩; subst w'; rw [HS])
      rw [hw0.out]
      refine (hov _).mono ?_
      rintro e w1 ⟨rfl, hb⟩
      have HB1 := boxed hb
      clear hb hov
      obtain ⟨⟨⟨d0, d1, d2, d3, d4⟩, g0, g1, g2, g3, g4⟩, HQ, HF, -⟩ := HN.out _ HB1.out (.int .i64 f0) (.int .i64 f1) (.int .i64 f2) (.int .i64 f3) (.bool f4)
      replace HQ := boxed HQ
      replace HF := boxed HF
      go_wp2_with fail
      refine bodyPost_ret (v := .agg #[.int .i64 f0, .int .i64 f1, .int .i64 f2, .int .i64 f3, .bool f4]) (by have q := HQ.out; simp only [put5] at q; simp [results, Tryz.results72, go_sem, q]) rfl ⟨rfl, hbS.out.trans (HF.out.mono (by omega))⟩
  · rw [if_neg (by omega), if_neg h2]
    generalize width - sw = S at *
    have t1 : (S == 0) = false := by simpa using h1
    have t2 : decide (0 < S) = false := decide_eq_false h2
    have HX : -1152921504606846976 ≤ -S ∧ -S ≤ 1152921504606846976 := by omega
    clear h1
    obtain ⟨f0, f1, f2, f3, f4, hF⟩ : ∃ a b c d e, shF (-S) sh = ⟨a, b, c, d, e⟩ := ⟨_, _, _, _, _, rfl⟩
    have hov := fun w => shrunk_any (-S) sh w HX
    rw [hF] at hov ⊢
    unfold Ft.val at hov ⊢
    simp only at hov ⊢
    clear hF
    obtain ⟨wS, hwS⟩ : ∃ wS, w.alloc (.cells #[.int .i64 sw, .int .i64 st, .int .i64 sh, .int .i64 sf] 88) = wS := ⟨_, rfl⟩
    have hbS : Below w.heap.size w wS := by rw [← hwS]; exact (Below.refl _ _).alloc (Nat.le_refl _) _
    have hzS : wS.heap.size = w.heap.size + 1 := by rw [← hwS]; simp
    obtain ⟨w0, hw0, hb0, hz0, HN⟩ := res5 wS _ hzS
    rw [← hwS] at hw0
    replace hw0 := boxed hw0
    replace HN := boxed HN
    replace hbS := boxed hbS
    clear hb0 hwS
    go_enter Tryz.func72, Tryz.ntmps72
    go_wp2_with (go_at_call 77; refine (sub_any _ _ _).mono ?_; rintro e w' ⟨rfl, hw'⟩; subst w'; rw [HS])
    rw [hw0.out]
    refine (hov _).mono ?_
    rintro e w1 ⟨rfl, hb⟩
    have HB1 := boxed hb
    clear hb hov
    obtain ⟨⟨⟨d0, d1, d2, d3, d4⟩, g0, g1, g2, g3, g4⟩, HQ, HF, -⟩ := HN.out _ HB1.out (.int .i64 f0) (.int .i64 f1) (.int .i64 f2) (.int .i64 f3) (.bool f4)
    replace HQ := boxed HQ
    replace HF := boxed HF
    go_wp2_with fail
    refine bodyPost_ret (v := .agg #[.int .i64 f0, .int .i64 f1, .int .i64 f2, .int .i64 f3, .bool f4]) (by have q := HQ.out; simp only [put5] at q; simp [results, Tryz.results72, go_sem, q]) rfl ⟨rfl, hbS.out.trans (HF.out.mono (by omega))⟩
end Go.Proofs.YtkmeeblkckfepabGreat
