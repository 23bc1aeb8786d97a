/-
  What the program's Check, First and Boundary of a text answer.
-/
import Derived.Test.YteckbkcngkppmaaIe
namespace Go.Proofs.Yteckbkcngkppmaa.Rd
open Go.RowKit
set_option linter.unusedSimpArgs false
set_option linter.unusedVariables false

set_option maxRecDepth 100000 in
theorem check_any (s : ByteArray) (w : World) (hs : s.size ≤ maxLen) (N : Nat) (hN : Cnt s N) :
    Calls Try.prog 34 #[.string s] w fun e w' => e = .returned (.int .i64 (chk s N)) ∧ w' = w := by
  have hb := bad_any s w hs N hN
  clear hN
  unfold chk
  have hc := badAt_cases s N
  generalize badAt s N = B at *
  rcases hc with hc | hc
  all_goals
    go_enter Try.func34, Try.ntmps34
    go_wp2_with (go_at_call 54; refine hb.mono ?_; rintro e w' ⟨rfl, hw'⟩; subst w')
    go_ret
    exact ⟨ret_int (by first | rfl | rw [if_pos (by omega)] | rw [if_neg (by omega)]), rfl⟩

theorem first_any (s : ByteArray) (w : World) (hs : s.size ≤ maxLen) :
    Calls Try.prog 26 #[.string s] w fun e w' => e = .returned (.tuple #[.int .i32 ((dc s 0).1 : Int), .int .i64 ((dc s 0).2 : Int)]) ∧ w' = w := by
  have hb := read_any s w hs
  go_enter Try.func26, Try.ntmps26
  go_wp2_with (go_at_call 44; refine hb.mono ?_; rintro e w' ⟨rfl, hw'⟩; subst w')
  go_ret2
  exact ⟨rfl, rfl⟩
/-- ErrOffset, ErrInside or OK. -/
def bnd (s : ByteArray) (a : Int) : Int := if a < 0 ∨ (s.size : Int) < a then 30 else if a < (s.size : Int) ∧ ins (bt s a.toNat : Int) = true then 21 else 0

set_option maxRecDepth 100000 in
set_option maxHeartbeats 800000 in
theorem boundary_any (s : ByteArray) (a : Int) (w : World) (hs : s.size ≤ maxLen) :
    Calls Try.prog 57 #[.string s, .int .i64 a] w fun e w' => e = .returned (.int .i64 (bnd s a)) ∧ w' = w := by
  unfold maxLen at hs
  by_cases h1 : a < 0
  · have hv : Box (bnd s a = 30) := boxed (by unfold bnd; rw [if_pos (Or.inl h1)])
    go_enter Try.func57, Try.ntmps57
    go_wp2
    go_ret
    exact ⟨ret_int hv.out.symm, rfl⟩
  by_cases h2 : (s.size : Int) < a
  · have hv : Box (bnd s a = 30) := boxed (by unfold bnd; rw [if_pos (Or.inr h2)])
    have d1 : decide (a < 0) = false := by simp; omega
    go_enter Try.func57, Try.ntmps57
    go_wp2
    go_ret
    exact ⟨ret_int hv.out.symm, rfl⟩
  obtain ⟨k, rfl⟩ : ∃ k : Nat, a = (k : Int) := ⟨a.toNat, by omega⟩
  have d1 : decide ((k : Int) < 0) = false := decide_eq_false (by omega)
  have d2 : decide ((s.size : Int) < (k : Int)) = false := decide_eq_false (by omega)
  have d2' : decide (s.size < k) = false := decide_eq_false (by omega)
  by_cases h3 : k < s.size
  · have hb := bt_in s k h3
    have d3 : decide ((k : Int) < (s.size : Int)) = true := decide_eq_true (by omega)
    have d3' : decide (k < s.size) = true := decide_eq_true h3
    cases hi : ins (s[k].toNat : Int) with
    | true =>
      have hv : Box (bnd s k = 21) := boxed (by unfold bnd; rw [if_neg (by omega), if_pos ⟨by omega, by simpa [hb] using hi⟩])
      clear hb h1 h2
      go_enter Try.func57, Try.ntmps57
      go_wp2_with (go_at_call 65; refine (inside_any _ _).mono ?_; rintro e w' ⟨rfl, hw'⟩; subst w')
      go_ret
      exact ⟨ret_int hv.out.symm, rfl⟩
    | false =>
      have hv : Box (bnd s k = 0) := boxed (by unfold bnd; rw [if_neg (by omega), if_neg (by rintro ⟨_, c⟩; simp [hb, hi] at c)])
      clear hb h1 h2
      go_enter Try.func57, Try.ntmps57
      go_wp2_with (go_at_call 65; refine (inside_any _ _).mono ?_; rintro e w' ⟨rfl, hw'⟩; subst w')
      go_ret
      exact ⟨ret_int hv.out.symm, rfl⟩
  · have hv : Box (bnd s k = 0) := boxed (by unfold bnd; rw [if_neg (by omega), if_neg (by omega)])
    have d3 : decide ((k : Int) < (s.size : Int)) = false := decide_eq_false (by omega)
    have d3' : decide (k < s.size) = false := decide_eq_false h3
    clear h1 h2
    go_enter Try.func57, Try.ntmps57
    go_wp2
    go_ret
    exact ⟨ret_int hv.out.symm, rfl⟩

end Go.Proofs.Yteckbkcngkppmaa.Rd
