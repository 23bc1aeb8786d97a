/-
  What the program's measured, ofKind, Legal and Right answer, and the document's Legal.
-/
import Derived.Test.YtkmeeblkckfepabGreatJb
namespace Go.Proofs.YtkmeeblkckfepabGreat
open Go.RowKit
set_option linter.unusedSimpArgs false
set_option linter.unusedVariables false

set_option maxRecDepth 100000 in
set_option maxHeartbeats 1000000 in
theorem measured_any (x : Itm) (w : World) : Calls Tryz.prog 38 #[x.val] w fun e w' => e = .returned (.bool (msd x)) ∧ Below w.heap.size w w' := by
  unfold msd Itm.val
  obtain ⟨k, wd, st, sh, fl, c, fg, fr, to⟩ := x
  simp only
  have m1 := fun w => measure_any wd w
  have m2 := fun w => measure_any st w
  have m3 := fun w => measure_any sh w
  cases h1 : ms wd
  · rw [h1] at m1
    go_enter Tryz.func38, Tryz.ntmps38
    go_wp2_with (go_at_call 53; refine (m1 _).mono ?_; rintro e w' ⟨rfl, hw'⟩; subst w')
    go_ret
    exact ⟨rfl, by go_grown⟩
  rw [h1] at m1
  cases h2 : ms st
  · rw [h2] at m2
    go_enter Tryz.func38, Tryz.ntmps38
    go_wp2_with fail
    refine (m1 _).mono ?_
    rintro e w' ⟨rfl, hw'⟩; subst w'
    go_wp2_with (go_at_call 53; refine (m2 _).mono ?_; rintro e w' ⟨rfl, hw'⟩; subst w')
    go_ret
    exact ⟨rfl, by go_grown⟩
  rw [h2] at m2
  cases h3 : ms sh
  all_goals
    rw [h3] at m3
    by_cases h4 : sh ≤ wd
    all_goals
      go_enter Tryz.func38, Tryz.ntmps38
      go_wp2_with fail
      refine (m1 _).mono ?_
      rintro e w' ⟨rfl, hw'⟩; subst w'
      go_wp2_with fail
      refine (m2 _).mono ?_
      rintro e w' ⟨rfl, hw'⟩; subst w'
      go_wp2_with (go_at_call 53; refine (m3 _).mono ?_; rintro e w' ⟨rfl, hw'⟩; subst w')
      go_ret
      exact ⟨ret_bool (by simp [h4]), by go_grown⟩

set_option maxRecDepth 100000 in
set_option maxHeartbeats 2000000 in
theorem ofKind_any (x : Itm) (w : World) : Calls Tryz.prog 39 #[x.val] w fun e w' => e = .returned (.bool (ofk x)) ∧ Below w.heap.size w w' := by
  unfold Itm.val
  have HV : Box (ofk x = ofk x) := boxed rfl
  generalize hV : ofk x = V at *
  unfold ofk at hV
  obtain ⟨k, wd, st, sh, fl, c, fg, fr, to⟩ := x
  simp only at *
  by_cases k1 : k = 1
  · subst k1
    rw [if_pos rfl] at hV
    subst hV
    cases h1 : (st == 0)
    all_goals
      cases h2 : (sh == 0)
      all_goals
        cases h3 : (c == 0)
        all_goals
          cases fl
          all_goals
            go_enter Tryz.func39, Tryz.ntmps39
            go_wp2
            go_ret
            exact ⟨ret_bool (by simp), by go_grown⟩
  by_cases k2 : k = 2
  · subst k2
    rw [if_neg (by omega), if_pos rfl] at hV
    subst hV
    cases h3 : (c == 0)
    all_goals
      cases fg
      all_goals
        cases fl
        all_goals
          cases h2 : (wd == 0)
          all_goals
            go_enter Tryz.func39, Tryz.ntmps39
            go_wp2
            go_ret
            exact ⟨ret_bool (by simp), by go_grown⟩
  by_cases k3 : k = 3
  · subst k3
    rw [if_neg (by omega), if_neg (by omega), if_pos rfl] at hV
    subst hV
    cases h1 : (st == 0)
    all_goals
      cases h2 : (sh == 0)
      all_goals
        cases fl
        all_goals
          by_cases h4 : -10000 ≤ c
          all_goals
            go_enter Tryz.func39, Tryz.ntmps39
            go_wp2
            go_ret
            exact ⟨ret_bool (by first | (simp [h4]; done) | (simp [h4]; omega)), by go_grown⟩
  rw [if_neg k1, if_neg k2, if_neg k3] at hV
  subst hV
  have t1 : (k == 1) = false := by simpa using k1
  have t2 : (k == 2) = false := by simpa using k2
  have t3 : (k == 3) = false := by simpa using k3
  go_enter Tryz.func39, Tryz.ntmps39
  go_wp2
  go_ret
  exact ⟨rfl, by go_grown⟩
end Go.Proofs.YtkmeeblkckfepabGreat
