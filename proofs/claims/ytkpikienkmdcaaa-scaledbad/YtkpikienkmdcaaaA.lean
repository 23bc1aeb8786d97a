/-
  What the program's small functions of layer 1 answer, each called with any numbers of 64 bits: Clamp, in any world.
-/
import Derived.Test.YtkpikienkmdcaaaRows
import Derived.Test.YtkpikienkmdcaaaP
import Derived.WalkKit
import Derived.WalkSpells
import Derived.Deep.QuietTactic
import Derived.BigQuiet
namespace Go.Proofs.Ytkpikienkmdcaaa
open Go.RowKit

set_option linter.unusedSimpArgs false
set_option linter.unusedVariables false

theorem ret_int {k : IntKind} {a b : Int} (h : a = b) : Ending.returned (.int k a) = .returned (.int k b) := by rw [h]
theorem bel_drewN (B : Nat) (w : World) (n : Nat) : Below B w (w.drewN n) := ⟨rfl, rfl, rfl, Nat.le_refl _, fun _ _ => rfl⟩
theorem ret_bool {a b : Bool} (h : a = b) : Ending.returned (.bool a) = .returned (.bool b) := by rw [h]

set_option maxHeartbeats 400000 in
theorem clamp_any (a : Int) (w : World) :
    Calls Try.prog 11 #[.int .i64 a] w fun e w' => e = .returned (.int .i64 (cl a)) ∧ w' = w := by
  unfold cl
  by_cases h1 : a < -1152921504606846976
  · go_enter Try.func11, Try.ntmps11
    go_wp2
    go_ret
    exact ⟨by simp [h1], rfl⟩
  · by_cases h2 : 1152921504606846976 < a
    · go_enter Try.func11, Try.ntmps11
      go_wp2
      go_ret
      exact ⟨by simp [h1, h2], rfl⟩
    · go_enter Try.func11, Try.ntmps11
      go_wp2
      go_ret
      exact ⟨by simp [h1, h2], rfl⟩

set_option maxHeartbeats 400000 in
theorem divide_core (a b q r : Int) (w : World) (hb : (b == 0) = false)
    (h : Hid ((((cl a).tmod (cl b) = 0 ∨ ((cl a).tmod (cl b) < 0 ↔ cl b < 0)) ∧ q = (cl a).tdiv (cl b) ∧ r = (cl a).tmod (cl b)) ∨
      (¬ (cl a).tmod (cl b) = 0 ∧ ¬ ((cl a).tmod (cl b) < 0 ↔ cl b < 0) ∧ q = (cl a).tdiv (cl b) - 1 ∧ r = (cl a).tmod (cl b) + cl b))) :
    Calls Try.prog 36 #[.int .i64 a, .int .i64 b] w fun e w' => e = .returned (.tuple #[.int .i64 q, .int .i64 r, .bool true]) ∧ ∃ n, w' = w.drewN n := by
  have ha := cl_le a
  have hy := cl_le b
  have hn : ¬ cl b = 0 := by rw [cl_zero]; simpa using hb
  have ht := td_le (cl a) (cl b)
  have hm := (tm_spec (cl a) (cl b) hn).2
  have h1 : -1152921504606846976 ≤ (cl a).tdiv (cl b) ∧ (cl a).tdiv (cl b) ≤ 1152921504606846976 := by omega
  have h2 : -1152921504606846976 < (cl a).tmod (cl b) ∧ (cl a).tmod (cl b) < 1152921504606846976 := by omega
  clear ht hm
  go_enter Try.func36, Try.ntmps36
  go_wp2_with (go_at_call 11; refine (clamp_any _ _).mono ?_; rintro e w' ⟨rfl, rfl⟩)
  generalize cl a = x at *
  generalize cl b = y at *
  go_quiet (fail)
  go_wp2
  all_goals
    go_ret3
    refine ⟨?_, _, rfl⟩
    have h := h.out
    simp at *
    try omega

theorem divide_any (a b : Int) (w : World) (hb : (b == 0) = false) :
    Calls Try.prog 36 #[.int .i64 a, .int .i64 b] w fun e w' => e = .returned (.tuple #[.int .i64 ((cl a).fdiv (cl b)), .int .i64 ((cl a).fmod (cl b)), .bool true]) ∧ ∃ n, w' = w.drewN n := by
  refine divide_core a b _ _ w hb ?_
  show _ ∨ _
  have hn : ¬ cl b = 0 := by rw [cl_zero]; simpa using hb
  by_cases h : (cl a).tmod (cl b) = 0 ∨ ((cl a).tmod (cl b) < 0 ↔ cl b < 0)
  · exact Or.inl ⟨h, fd_same _ _ hn h⟩
  · exact Or.inr ⟨by omega, by omega, fd_less _ _ hn (by omega) (by omega)⟩

set_option maxHeartbeats 400000 in
theorem divide_zero (a b : Int) (w : World) (hb : (b == 0) = true) :
    Calls Try.prog 36 #[.int .i64 a, .int .i64 b] w fun e w' => e = .returned (.tuple #[.int .i64 0, .int .i64 0, .bool false]) ∧ ∃ n, w' = w.drewN n := by
  go_enter Try.func36, Try.ntmps36
  go_wp2
  go_ret3
  exact ⟨rfl, 0, rfl⟩

/-- What Div answers: the quotient rounded down of the clamped numbers, and whether the second isn't nought. -/
def dv (a b : Int) : Int := if b = 0 then 0 else (cl a).fdiv (cl b)
def md (a b : Int) : Int := if b = 0 then 0 else (cl a).fmod (cl b)
def nz (b : Int) : Bool := !(b == 0)
theorem nz_t (b : Int) (h : ¬ b = 0) : nz b = true := by unfold nz; simp [h]
theorem nz_f (b : Int) (h : b = 0) : nz b = false := by unfold nz; simp [h]

set_option maxHeartbeats 400000 in
theorem div_any (a b : Int) (w : World) :
    Calls Try.prog 18 #[.int .i64 a, .int .i64 b] w fun e w' => e = .returned (.tuple #[.int .i64 (dv a b), .bool (nz b)]) ∧ ∃ n, w' = w.drewN n := by
  by_cases hb : b = 0
  · have e1 : dv a b = 0 := by simp [dv, hb]
    rw [e1, nz_f b hb]
    have hb' : (b == 0) = true := by simpa using hb
    clear hb
    go_enter Try.func18, Try.ntmps18
    go_wp2_with (go_at_call 36; refine (divide_zero _ _ _ hb').mono ?_; rintro e w' ⟨rfl, n, rfl⟩)
    go_ret2
    exact ⟨rfl, _, rfl⟩
  · have e1 : dv a b = (cl a).fdiv (cl b) := by simp [dv, hb]
    rw [e1, nz_t b hb]
    have hb' : (b == 0) = false := by simpa using hb
    clear hb
    go_enter Try.func18, Try.ntmps18
    go_wp2_with (go_at_call 36; refine (divide_any _ _ _ hb').mono ?_; rintro e w' ⟨rfl, n, rfl⟩)
    go_ret2
    exact ⟨rfl, _, rfl⟩

set_option maxHeartbeats 400000 in
theorem mod_any (a b : Int) (w : World) :
    Calls Try.prog 19 #[.int .i64 a, .int .i64 b] w fun e w' => e = .returned (.tuple #[.int .i64 (md a b), .bool (nz b)]) ∧ ∃ n, w' = w.drewN n := by
  by_cases hb : b = 0
  · have e1 : md a b = 0 := by simp [md, hb]
    rw [e1, nz_f b hb]
    have hb' : (b == 0) = true := by simpa using hb
    clear hb
    go_enter Try.func19, Try.ntmps19
    go_wp2_with (go_at_call 36; refine (divide_zero _ _ _ hb').mono ?_; rintro e w' ⟨rfl, n, rfl⟩)
    go_ret2
    exact ⟨rfl, _, rfl⟩
  · have e1 : md a b = (cl a).fmod (cl b) := by simp [md, hb]
    rw [e1, nz_t b hb]
    have hb' : (b == 0) = false := by simpa using hb
    clear hb
    go_enter Try.func19, Try.ntmps19
    go_wp2_with (go_at_call 36; refine (divide_any _ _ _ hb').mono ?_; rintro e w' ⟨rfl, n, rfl⟩)
    go_ret2
    exact ⟨rfl, _, rfl⟩

set_option maxHeartbeats 400000 in
theorem bad_32 (w : World) : Calls Try.prog 31 #[.int .i64 3, .int .i64 2] w fun e w' => e = .returned (.int .i64 337) ∧ w' = w := by
  have c3 : cl 3 = 3 := by decide
  have c2 : cl 2 = 2 := by decide
  go_enter Try.func31, Try.ntmps31
  go_wp2_with (go_at_call 11; refine (clamp_any _ _).mono ?_; rintro e w' ⟨rfl, rfl⟩)
  go_ret
  exact ⟨rfl, rfl⟩

set_option maxHeartbeats 400000 in
theorem bad_92 (w : World) : Calls Try.prog 31 #[.int .i64 9, .int .i64 2] w fun e w' => e = .returned (.int .i64 9112) ∧ w' = w := by
  have c3 : cl 9 = 9 := by decide
  have c2 : cl 2 = 2 := by decide
  go_enter Try.func31, Try.ntmps31
  go_wp2_with (go_at_call 11; refine (clamp_any _ _).mono ?_; rintro e w' ⟨rfl, rfl⟩)
  go_ret
  exact ⟨rfl, rfl⟩

set_option maxHeartbeats 400000 in
theorem awake_any (w : World) : Calls Try.prog 9 #[] w fun e w' => e = .returned (.bool true) ∧ ∃ n, w' = w.drewN n := by
  have d1 : dv (-7) 2 = -4 := by decide
  have d2 : nz 2 = true := by decide
  go_enter Try.func9, Try.ntmps9
  go_wp2_with fail
  refine (div_any (-7) 2 _).mono ?_
  rintro e w' ⟨rfl, n, rfl⟩
  go_wp2_with fail
  refine (bad_32 _).mono ?_
  rintro e w' ⟨rfl, rfl⟩
  go_wp2_with fail
  refine (bad_92 _).mono ?_
  rintro e w' ⟨rfl, rfl⟩
  go_wp2_with fail
  go_ret
  exact ⟨rfl, _, rfl⟩
end Go.Proofs.Ytkpikienkmdcaaa
