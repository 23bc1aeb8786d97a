/-
  Sums that stay within bounds, as the program's Add and the document's answer them; and how wide a right text is, as the program's Text does.
-/
import Derived.Test.YtcdcpmcjlchfgaaMl
import Derived.Lib.OthersKept
namespace Go.Proofs.Ytcdcpmcjlchfgaa
open Go.RowKit
set_option linter.unusedSimpArgs false
set_option linter.unusedVariables false

def cl (a : Int) : Int := if a < -1152921504606846976 then -1152921504606846976 else if 1152921504606846976 < a then 1152921504606846976 else a

theorem cl_le (a : Int) : -1152921504606846976 ≤ cl a ∧ cl a ≤ 1152921504606846976 := by unfold cl; split <;> (try split) <;> omega
theorem cl_zero (a : Int) : cl a = 0 ↔ a = 0 := by unfold cl; split <;> (try split) <;> omega
theorem cl_same (a : Int) (h1 : -1152921504606846976 ≤ a) (h2 : a ≤ 1152921504606846976) : cl a = a := by unfold cl; split <;> (try split) <;> omega
theorem cl_cl (a : Int) : cl (cl a) = cl a := cl_same _ (cl_le a).1 (cl_le a).2
theorem cl_neg (a : Int) : cl a < 0 ↔ a < 0 := by unfold cl; split <;> (try split) <;> omega
theorem cl_pos (a : Int) : 0 < cl a ↔ 0 < a := by unfold cl; split <;> (try split) <;> omega

set_option maxHeartbeats 400000 in
theorem clamp_any (a : Int) (w : World) :
    Calls Try.prog 57 #[.int .i64 a] w fun e w' => e = .returned (.int .i64 (cl a)) ∧ w' = w := by
  unfold cl
  by_cases h1 : a < -1152921504606846976
  · go_enter Try.func57, Try.ntmps57
    go_wp2
    go_ret
    exact ⟨by simp [h1], rfl⟩
  · by_cases h2 : 1152921504606846976 < a
    · go_enter Try.func57, Try.ntmps57
      go_wp2
      go_ret
      exact ⟨by simp [h1, h2], rfl⟩
    · go_enter Try.func57, Try.ntmps57
      go_wp2
      go_ret
      exact ⟨by simp [h1, h2], rfl⟩

def ad (a b : Int) : Int := cl (cl a + cl b)
theorem ad_le (a b : Int) : -1152921504606846976 ≤ ad a b ∧ ad a b ≤ 1152921504606846976 := cl_le _
set_option maxHeartbeats 400000 in
theorem refclamp_any (a : Int) (w : World) :
    Calls Try.prog 62 #[.int .i64 a] w fun e w' => e = .returned (.int .i64 (cl a)) ∧ w' = w := by
  unfold cl
  by_cases h1 : a < -1152921504606846976
  · go_enter Try.func62, Try.ntmps62
    go_wp2
    go_ret
    exact ⟨by simp [h1], rfl⟩
  · by_cases h2 : 1152921504606846976 < a
    · go_enter Try.func62, Try.ntmps62
      go_wp2
      go_ret
      exact ⟨by simp [h1, h2], rfl⟩
    · go_enter Try.func62, Try.ntmps62
      go_wp2
      go_ret
      exact ⟨by simp [h1, h2], rfl⟩

set_option maxHeartbeats 400000 in
theorem refadd_any (a b : Int) (w : World) :
    Calls Try.prog 42 #[.int .i64 a, .int .i64 b] w fun e w' => e = .returned (.int .i64 (ad a b)) ∧ w' = w := by
  unfold ad
  have h1 := cl_le a
  have h2 := cl_le b
  go_enter Try.func42, Try.ntmps42
  go_wp2_with (go_at_call 62; refine (refclamp_any _ _).mono ?_; rintro e w' ⟨rfl, rfl⟩)
  go_ret
  exact ⟨rfl, rfl⟩

set_option maxHeartbeats 400000 in
theorem add_any (a b : Int) (w : World) :
    Calls Try.prog 35 #[.int .i64 a, .int .i64 b] w fun e w' => e = .returned (.int .i64 (ad a b)) ∧ w' = w := by
  unfold ad
  have h1 := cl_le a
  have h2 := cl_le b
  go_enter Try.func35, Try.ntmps35
  go_wp2_with (go_at_call 57; refine (clamp_any _ _).mono ?_; rintro e w' ⟨rfl, rfl⟩)
  go_ret
  exact ⟨rfl, rfl⟩


/-- How wide the first k runes of a text are together. -/
def txw (s : Sty) (t : ByteArray) : Nat → Int
  | 0 => 0
  | k + 1 => ad (txw s t k) (wdS s (rn t k))
theorem txw_le (s : Sty) (t : ByteArray) (k : Nat) : -1152921504606846976 ≤ txw s t k ∧ txw s t k ≤ 1152921504606846976 := by
  cases k with
  | zero => simp [txw]
  | succ k => exact ad_le _ _
theorem txw_like {s g : Sty} (h : Like s g) (t : ByteArray) (k : Nat) : txw g t k = txw s t k := by
  induction k with
  | zero => rfl
  | succ k ih => simp only [txw]; rw [ih, wdS_like h]

end Go.Proofs.Ytcdcpmcjlchfgaa
