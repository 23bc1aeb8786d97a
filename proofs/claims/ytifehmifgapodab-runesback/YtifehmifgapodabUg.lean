/-
  What the program's Boundary answers for every text and every place, and that the page's examples come out.
-/
import Derived.Test.YtifehmifgapodabUf
namespace Go.Proofs.Ytifehmifgapodab
open Go.RowKit
set_option linter.unusedSimpArgs false
set_option linter.unusedVariables false

/-- ErrOffset, ErrInside or OK. -/
def bnd (s : ByteArray) (a : Int) : Int := if a < 0 ∨ (s.size : Int) < a then 30 else if a < (s.size : Int) ∧ ins (bt s a.toNat : Int) = true then 21 else 0

set_option maxRecDepth 100000 in
set_option maxHeartbeats 800000 in
theorem boundary_any (s : ByteArray) (a : Int) (w : World) (hs : s.size ≤ maxLen) :
    Calls Try.prog 14 #[.string s, .int .i64 a] w fun e w' => e = .returned (.int .i64 (bnd s a)) ∧ w' = w := by
  unfold maxLen at hs
  by_cases h1 : a < 0
  · have hv : Box (bnd s a = 30) := boxed (by unfold bnd; rw [if_pos (Or.inl h1)])
    go_enter Try.func14, Try.ntmps14
    go_wp2
    go_ret
    exact ⟨ret_int hv.out.symm, rfl⟩
  by_cases h2 : (s.size : Int) < a
  · have hv : Box (bnd s a = 30) := boxed (by unfold bnd; rw [if_pos (Or.inr h2)])
    have d1 : decide (a < 0) = false := by simp; omega
    go_enter Try.func14, Try.ntmps14
    go_wp2
    go_ret
    exact ⟨ret_int hv.out.symm, rfl⟩
  obtain ⟨k, rfl⟩ : ∃ k : Nat, a = (k : Int) := ⟨a.toNat, by omega⟩
  have d1 : decide ((k : Int) < 0) = false := decide_eq_false (by omega)
  have d2 : decide ((s.size : Int) < (k : Int)) = false := decide_eq_false (by omega)
  have d2' : decide (s.size < k) = false := decide_eq_false (by omega)
  by_cases h3 : k < s.size
  · have hb := bt_in s k h3
    have d3 : decide ((k : Int) < (s.size : Int)) = true := decide_eq_true (by omega)
    have d3' : decide (k < s.size) = true := decide_eq_true h3
    cases hi : ins (s[k].toNat : Int) with
    | true =>
      have hv : Box (bnd s k = 21) := boxed (by unfold bnd; rw [if_neg (by omega), if_pos ⟨by omega, by simpa [hb] using hi⟩])
      clear hb h1 h2
      go_enter Try.func14, Try.ntmps14
      go_wp2_with (go_at_call 11; refine (inside_any _ _).mono ?_; rintro e w' ⟨rfl, hw'⟩; subst w')
      go_ret
      exact ⟨ret_int hv.out.symm, rfl⟩
    | false =>
      have hv : Box (bnd s k = 0) := boxed (by unfold bnd; rw [if_neg (by omega), if_neg (by rintro ⟨_, c⟩; simp [hb, hi] at c)])
      clear hb h1 h2
      go_enter Try.func14, Try.ntmps14
      go_wp2_with (go_at_call 11; refine (inside_any _ _).mono ?_; rintro e w' ⟨rfl, hw'⟩; subst w')
      go_ret
      exact ⟨ret_int hv.out.symm, rfl⟩
  · have hv : Box (bnd s k = 0) := boxed (by unfold bnd; rw [if_neg (by omega), if_neg (by omega)])
    have d3 : decide ((k : Int) < (s.size : Int)) = false := decide_eq_false (by omega)
    have d3' : decide (k < s.size) = false := decide_eq_false h3
    clear h1 h2
    go_enter Try.func14, Try.ntmps14
    go_wp2
    go_ret
    exact ⟨ret_int hv.out.symm, rfl⟩

theorem cnt1 : Cnt ⟨#[195, 40]⟩ 0 := ⟨by intro j h; omega, by decide +kernel⟩
theorem cnt2 : Cnt ⟨#[97, 195, 169, 98]⟩ 3 := by unfold Cnt; decide +kernel

set_option maxRecDepth 100000 in
theorem awake_any (w : World) : Calls Try.prog 6 #[] w fun e w' => e = .returned (.bool true) ∧ w' = w := by
  have h1 := bad_any ⟨#[195, 40]⟩ w (by decide) 0 cnt1
  have h2 := bad_any ⟨#[97, 195, 169, 98]⟩ w (by decide) 3 cnt2
  have h3 := boundary_any ⟨#[195, 169]⟩ 1 w (by decide)
  have h4 := kind_any 32 w
  have e1 : badAt ⟨#[195, 40]⟩ 0 = 0 := by decide +kernel
  have e2 : badAt ⟨#[97, 195, 169, 98]⟩ 3 = -1 := by decide +kernel
  have e3 : bnd ⟨#[195, 169]⟩ 1 = 21 := by decide +kernel
  have e4 : kd 32 = 1 := by decide +kernel
  rw [e1] at h1; rw [e2] at h2; rw [e3] at h3; rw [e4] at h4
  go_enter Try.func6, Try.ntmps6
  go_wp2_with fail
  refine h1.mono ?_
  rintro e w' ⟨rfl, hw'⟩
  subst w'
  go_wp2_with fail
  refine h2.mono ?_
  rintro e w' ⟨rfl, hw'⟩
  subst w'
  go_wp2_with fail
  refine h3.mono ?_
  rintro e w' ⟨rfl, hw'⟩
  subst w'
  go_wp2_with fail
  refine h4.mono ?_
  rintro e w' ⟨rfl, hw'⟩
  subst w'
  go_wp2
  go_ret
  exact ⟨rfl, rfl⟩
end Go.Proofs.Ytifehmifgapodab
