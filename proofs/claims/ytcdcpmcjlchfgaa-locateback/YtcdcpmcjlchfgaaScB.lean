/-
  What Add (the program's and the document's), the document's Clamp and the program's size answer, for any numbers, and what sums that are never cut off come to: plain arithmetic first, then the walks.
-/
import Derived.Test.YtcdcpmcjlchfgaaScA
namespace Go.Proofs.Ytcdcpmcjlchfgaa.Sc
open Go.RowKit
set_option linter.unusedSimpArgs false
set_option linter.unusedVariables false

def ad (a b : Int) : Int := cl (cl a + cl b)
theorem ad_le (a b : Int) : -1152921504606846976 ≤ ad a b ∧ ad a b ≤ 1152921504606846976 := cl_le _
/-- The list summed up one behind the other. -/
def fs (l : List Int) : Int := l.foldl ad 0
theorem fs_le (l : List Int) : -1152921504606846976 ≤ fs l ∧ fs l ≤ 1152921504606846976 := by
  unfold fs
  have : ∀ (l : List Int) (s : Int), -1152921504606846976 ≤ s ∧ s ≤ 1152921504606846976 → -1152921504606846976 ≤ l.foldl ad s ∧ l.foldl ad s ≤ 1152921504606846976 := by
    intro l
    induction l with
    | nil => intro s h; exact h
    | cons x r ih => intro s _; exact ih _ (ad_le _ _)
  exact this l 0 (by omega)
theorem fs_succ (zs : List Int) (k : Nat) (h : k < zs.length) : fs (zs.take (k + 1)) = ad (fs (zs.take k)) (zs[k]?.getD 0) := by
  unfold fs
  rw [List.take_succ_eq_append_getElem h, List.foldl_append]
  simp [h]
/-- The exact sum of the clamped numbers. -/
def tot (l : List Int) : Int := (l.map cl).sum
theorem tot_succ (zs : List Int) (k : Nat) (h : k < zs.length) : tot (zs.take (k + 1)) = tot (zs.take k) + cl (zs[k]?.getD 0) := by
  unfold tot
  rw [List.take_succ_eq_append_getElem h, List.map_append, List.sum_append]
  simp only [List.map_cons, List.map_nil, List.sum_cons, List.sum_nil, Int.add_zero]
  rw [List.getElem?_eq_getElem h, Option.getD_some]
theorem ad_exact (s x : Int) (h1 : -1152921504606846976 ≤ s) (h2 : s ≤ 1152921504606846976) (h3 : ad s x ≠ 1152921504606846976) (h4 : ad s x ≠ -1152921504606846976) : ad s x = s + cl x := by
  unfold ad at *
  rw [cl_same s h1 h2] at *
  generalize s + cl x = t at *
  unfold cl at *
  split <;> (try split) <;> simp_all
theorem tot_rev (l : List Int) : tot l.reverse = tot l := by
  unfold tot
  rw [List.map_reverse, List.sum_reverse]

set_option maxRecDepth 100000 in
set_option maxHeartbeats 400000 in
theorem refclamp_any (a : Int) (w : World) :
    Calls Try.prog 62 #[.int .i64 a] w fun e w' => e = .returned (.int .i64 (cl a)) ∧ w' = w := by
  unfold cl
  by_cases h1 : a < -1152921504606846976
  · go_enter Try.func62, Try.ntmps62
    go_wp2
    go_ret
    exact ⟨by simp [h1], rfl⟩
  · by_cases h2 : 1152921504606846976 < a
    · go_enter Try.func62, Try.ntmps62
      go_wp2
      go_ret
      exact ⟨by simp [h1, h2], rfl⟩
    · go_enter Try.func62, Try.ntmps62
      go_wp2
      go_ret
      exact ⟨by simp [h1, h2], rfl⟩

set_option maxRecDepth 100000 in
set_option maxHeartbeats 400000 in
theorem refadd_any (a b : Int) (w : World) :
    Calls Try.prog 42 #[.int .i64 a, .int .i64 b] w fun e w' => e = .returned (.int .i64 (ad a b)) ∧ w' = w := by
  unfold ad
  have h1 := cl_le a
  have h2 := cl_le b
  go_enter Try.func42, Try.ntmps42
  go_wp2_with (go_at_call 62; refine (refclamp_any _ _).mono ?_; rintro e w' ⟨rfl, rfl⟩)
  go_ret
  exact ⟨rfl, rfl⟩

set_option maxRecDepth 100000 in
set_option maxHeartbeats 400000 in
theorem add_any (a b : Int) (w : World) :
    Calls Try.prog 35 #[.int .i64 a, .int .i64 b] w fun e w' => e = .returned (.int .i64 (ad a b)) ∧ w' = w := by
  unfold ad
  have h1 := cl_le a
  have h2 := cl_le b
  go_enter Try.func35, Try.ntmps35
  go_wp2_with (go_at_call 57; refine (clamp_any _ _).mono ?_; rintro e w' ⟨rfl, rfl⟩)
  go_ret
  exact ⟨rfl, rfl⟩

set_option maxRecDepth 100000 in
set_option maxHeartbeats 400000 in
theorem size_any (a : Int) (w : World) (h1 : -1152921504606846976 ≤ a) (h2 : a ≤ 1152921504606846976) :
    Calls Try.prog 89 #[.int .i64 a] w fun e w' => e = .returned (.int .u64 (a.natAbs : Int)) ∧ w' = w := by
  by_cases h : 0 ≤ a
  · go_enter Try.func89, Try.ntmps89
    go_wp2
    go_ret
    exact ⟨ret_int (by omega), rfl⟩
  · go_enter Try.func89, Try.ntmps89
    go_wp2
    go_ret
    exact ⟨ret_int (by omega), rfl⟩
end Go.Proofs.Ytcdcpmcjlchfgaa.Sc
