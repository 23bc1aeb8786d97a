/-
  What the program's Bad answers for any two numbers.
-/
import Derived.Test.YtkmeeblkckfepabGreatW
namespace Go.Proofs.YtkmeeblkckfepabGreat
open Go.RowKit
set_option linter.unusedSimpArgs false
set_option linter.unusedVariables false

/-- Badness, of any two numbers. -/
def bd (t s : Int) : Int := if cl t ≤ 0 then 0 else if cl s ≤ 0 then 10000 else ((bw (cl t).toNat (cl s).toNat : Nat) : Int)

theorem five3 (s : Nat) : 5 * s * (5 * s) * (5 * s) = 125 * (s * s * s) := by rw [Nat.mul_mul_mul_comm 5 s 5 s, Nat.mul_mul_mul_comm (5 * 5) (s * s) 5 s]
theorem bw_great (t s : Nat) (hs : 0 < s) (h : 5 * s ≤ t) : bw t s = 10000 := by
  unfold bw
  have h1 : (5 * s) * (5 * s) ≤ t * t := Nat.mul_le_mul h h
  have h2 : (5 * s) * (5 * s) * (5 * s) ≤ t * t * t := Nat.mul_le_mul h1 h
  have e : (5 * s) * (5 * s) * (5 * s) = 125 * (s * s * s) := five3 s
  rw [e] at h2
  have : 10000 ≤ 100 * (t * t * t) / (s * s * s) := by
    rw [Nat.le_div_iff_mul_le (cube_pos s hs)]
    generalize s * s * s = c at *
    omega
  exact Nat.min_eq_right this
theorem bw_small (t s : Nat) (hs : 0 < s) (h : 5 * t ≤ s) : bw t s = 0 := by
  unfold bw
  have h1 : (5 * t) * (5 * t) ≤ s * s := Nat.mul_le_mul h h
  have h2 : (5 * t) * (5 * t) * (5 * t) ≤ s * s * s := Nat.mul_le_mul h1 h
  have e : (5 * t) * (5 * t) * (5 * t) = 125 * (t * t * t) := five3 t
  rw [e] at h2
  have hc := cube_pos s hs
  have : 100 * (t * t * t) / (s * s * s) = 0 := by
    rw [Nat.div_eq_zero_iff]
    right
    generalize s * s * s = c at *
    generalize t * t * t = d at *
    omega
  rw [this]; rfl

set_option maxRecDepth 100000 in
set_option maxHeartbeats 400000 in
theorem bad_core (t s : Int) (T S : Nat) (w : World) (ht : cl t = (T : Int)) (hs : cl s = (S : Int)) (hT : 0 < T) (hS : 0 < S) :
    Calls Tryz.prog 84 #[.int .i64 t, .int .i64 s] w fun e w' => e = .returned (.int .i64 (bw T S : Nat)) ∧ Below w.heap.size w w' := by
  have hTl : T ≤ 1152921504606846976 := by have := cl_le t; omega
  have hSl : S ≤ 1152921504606846976 := by have := cl_le s; omega
  by_cases c1 : 5 * S ≤ T
  · have e := bw_great T S hS c1
    rw [e]
    have d1 : decide ((S : Int) ≤ 0) = false := by simp; omega
    clear e
    go_enter Tryz.func84, Tryz.ntmps84
    go_wp2_with (go_at_call 75; refine (clamp_any _ _).mono ?_; rintro e w' ⟨rfl, hw'⟩; subst w')
    go_ret
    exact ⟨rfl, Below.refl _ _⟩
  · by_cases c2 : 5 * T ≤ S
    · have e := bw_small T S hS c2
      rw [e]
      have d1 : decide ((S : Int) ≤ 0) = false := by simp; omega
      clear e
      go_enter Tryz.func84, Tryz.ntmps84
      go_wp2_with (go_at_call 75; refine (clamp_any _ _).mono ?_; rintro e w' ⟨rfl, hw'⟩; subst w')
      go_ret
      exact ⟨rfl, Below.refl _ _⟩
    · have d1 : decide ((S : Int) ≤ 0) = false := by simp; omega
      by_cases c3 : T ≤ 262144
      · have q1 : T * T ≤ 262144 * 262144 := Nat.mul_le_mul c3 c3
        have q2 : T * T * T ≤ 262144 * 262144 * 262144 := Nat.mul_le_mul q1 c3
        have c4 : S ≤ 1310720 := by omega
        have q3 : S * S ≤ 1310720 * 1310720 := Nat.mul_le_mul c4 c4
        have q4 : S * S * S ≤ 1310720 * 1310720 * 1310720 := Nat.mul_le_mul q3 c4
        have q5 := cube_pos S hS
        obtain ⟨T2, hT2⟩ : ∃ T2, 100 * T * T = T2 := ⟨_, rfl⟩
        obtain ⟨T3, hT3⟩ : ∃ T3, T2 * T = T3 := ⟨_, rfl⟩
        obtain ⟨S2, hS2⟩ : ∃ S2, S * S = S2 := ⟨_, rfl⟩
        obtain ⟨S3, hS3⟩ : ∃ S3, S2 * S = S3 := ⟨_, rfl⟩
        have r2 : T2 = 100 * (T * T) := by rw [← hT2, Nat.mul_assoc]
        have r3 : T3 = 100 * (T * T * T) := by rw [← hT3, r2, Nat.mul_assoc]
        have r4 : S3 = S * S * S := by rw [← hS3, ← hS2]
        have E2 : 100 * (T : Int) * (T : Int) = (T2 : Int) := by rw [← hT2]; simp
        have E3 : (T2 : Int) * (T : Int) = (T3 : Int) := by rw [← hT3]; simp
        have E4 : (S : Int) * (S : Int) = (S2 : Int) := by rw [← hS2]; simp
        have E5 : (S2 : Int) * (S : Int) = (S3 : Int) := by rw [← hS3]; simp
        have b2 : T2 ≤ 6871947673600 := by omega
        have b3 : T3 ≤ 1801439850948198400 := by omega
        have b4 : S2 ≤ 1717986918400 := by omega
        have b5 : S3 ≤ 2251799813685248000 := by omega
        have b6 : 0 < S3 := by omega
        have HW : Box (bw T S = min (T3 / S3) 10000) := ⟨by unfold bw; rw [r3, r4]⟩
        obtain ⟨q, hq⟩ : ∃ q, T3 / S3 = q := ⟨_, rfl⟩
        have E6 : (T3 : Int) / (S3 : Int) = (q : Int) := by rw [← hq]; simp
        have b7 : q ≤ 1801439850948198400 := by rw [← hq]; exact Nat.le_trans (Nat.div_le_self _ _) b3
        rw [hq] at HW
        clear q1 q2 q3 q4 q5 hT2 hT3 hS2 hS3 r2 r3 r4 hq
        go_enter Tryz.func84, Tryz.ntmps84
        go_wp2_with (go_at_call 75; refine (clamp_any _ _).mono ?_; rintro e w' ⟨rfl, hw'⟩; subst w')
        all_goals
          go_ret
          refine ⟨ret_int ?_, Below.refl _ _⟩
          rw [HW.out]
          omega
      · go_enter Tryz.func84, Tryz.ntmps84
        go_wp2_with (go_at_call 75; refine (clamp_any _ _).mono ?_; rintro e w' ⟨rfl, hw'⟩; subst w')
        refine (wideBad_w T S _ hTl hSl hS).mono ?_
        rintro e w1 ⟨rfl, hb1⟩
        go_wp2_with fail
        go_ret
        exact ⟨rfl, hb1⟩

set_option maxRecDepth 100000 in
set_option maxHeartbeats 400000 in
theorem bad_any (t s : Int) (w : World) :
    Calls Tryz.prog 84 #[.int .i64 t, .int .i64 s] w fun e w' => e = .returned (.int .i64 (bd t s)) ∧ Below w.heap.size w w' := by
  by_cases h1 : cl t ≤ 0
  · have e : bd t s = 0 := by simp [bd, h1]
    rw [e]
    clear e
    go_enter Tryz.func84, Tryz.ntmps84
    go_wp2_with (go_at_call 75; refine (clamp_any _ _).mono ?_; rintro e w' ⟨rfl, hw'⟩; subst w')
    go_ret
    exact ⟨rfl, Below.refl _ _⟩
  · by_cases h2 : cl s ≤ 0
    · have e : bd t s = 10000 := by simp [bd, h1, h2]
      rw [e]
      have d1 : decide (cl s ≤ 0) = true := by simpa using h2
      clear e
      go_enter Tryz.func84, Tryz.ntmps84
      go_wp2_with (go_at_call 75; refine (clamp_any _ _).mono ?_; rintro e w' ⟨rfl, hw'⟩; subst w')
      go_ret
      exact ⟨rfl, Below.refl _ _⟩
    · have e : bd t s = ((bw (cl t).toNat (cl s).toNat : Nat) : Int) := by simp [bd, h1, h2]
      rw [e]
      exact bad_core t s _ _ w (by omega) (by omega) (by omega) (by omega)
end Go.Proofs.YtkmeeblkckfepabGreat
