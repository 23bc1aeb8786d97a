/-
  Plain arithmetic: badness doesn't fall where more is asked, nor where less is given; and it is at least 100 just where as much is asked as given. No walk.
-/
import Derived.Test.YtkmeeblkckfepabGreatC
namespace Go.Proofs.YtkmeeblkckfepabGreat
set_option linter.unusedSimpArgs false
set_option linter.unusedVariables false

theorem cube_mono (a b : Nat) (h : a ≤ b) : a * a * a ≤ b * b * b := Nat.mul_le_mul (Nat.mul_le_mul h h) h
theorem cube_strict (a b : Nat) (h : a < b) : a * a * a < b * b * b := by
  have h1 : a * a ≤ b * b := Nat.mul_le_mul (by omega) (by omega)
  have h2 : a * a * a ≤ b * b * a := Nat.mul_le_mul_right _ h1
  have h3 : b * b * a < b * b * b := Nat.mul_lt_mul_of_pos_left h (Nat.mul_pos (by omega) (by omega))
  omega
theorem bw_up (t t' s : Nat) (h : t ≤ t') : bw t s ≤ bw t' s := by
  unfold bw
  have h1 := cube_mono t t' h
  have h2 : 100 * (t * t * t) / (s * s * s) ≤ 100 * (t' * t' * t') / (s * s * s) := Nat.div_le_div_right (Nat.mul_le_mul_left _ h1)
  omega
theorem bw_down (t s s' : Nat) (h : s' ≤ s) (h0 : 0 < s') : bw t s ≤ bw t s' := by
  unfold bw
  have h1 := cube_mono s' s h
  have h2 : 100 * (t * t * t) / (s * s * s) ≤ 100 * (t * t * t) / (s' * s' * s') := Nat.div_le_div_left h1 (cube_pos s' h0)
  omega
theorem bw_hundred (t s : Nat) (h0 : 0 < s) : 100 ≤ bw t s ↔ s ≤ t := by
  unfold bw
  rw [Nat.le_min]
  have hc := cube_pos s h0
  rw [Nat.le_div_iff_mul_le hc]
  constructor
  · rintro ⟨h, _⟩
    by_cases c : s ≤ t
    · exact c
    · have := cube_strict t s (by omega)
      omega
  · intro h
    have := cube_mono s t h
    exact ⟨by omega, by omega⟩

theorem bd_le (t s : Int) : 0 ≤ bd t s ∧ bd t s ≤ 10000 := by
  unfold bd
  split
  · omega
  · split
    · omega
    · have : bw (cl t).toNat (cl s).toNat ≤ 10000 := Nat.min_le_right _ _
      omega
theorem cl_mono (a b : Int) (h : a ≤ b) : cl a ≤ cl b := by
  unfold cl
  split <;> split <;> (try split) <;> (try split) <;> omega

theorem bd_up (t t' s : Int) (h : t ≤ t') : bd t s ≤ bd t' s := by
  have hm := cl_mono t t' h
  have hr := bd_le t' s
  unfold bd at *
  by_cases c1 : cl t ≤ 0
  · rw [if_pos c1]; exact hr.1
  · rw [if_neg c1]
    have c1' : ¬ cl t' ≤ 0 := by omega
    rw [if_neg c1']
    by_cases c2 : cl s ≤ 0
    · rw [if_pos c2, if_pos c2]; omega
    · rw [if_neg c2, if_neg c2]
      have := bw_up (cl t).toNat (cl t').toNat (cl s).toNat (by omega)
      omega
theorem bd_down (t s s' : Int) (h : s' ≤ s) : bd t s ≤ bd t s' := by
  have hm := cl_mono s' s h
  have hr := bd_le t s
  unfold bd at *
  by_cases c1 : cl t ≤ 0
  · rw [if_pos c1, if_pos c1]; omega
  · rw [if_neg c1] at *
    by_cases c2 : cl s' ≤ 0
    · rw [if_neg c1, if_pos c2]; exact hr.2
    · have c2' : ¬ cl s ≤ 0 := by omega
      rw [if_neg c2', if_neg c1, if_neg c2]
      have := bw_down (cl t).toNat (cl s).toNat (cl s').toNat (by omega) (by omega)
      omega
theorem bd_hundred (t s : Int) (h1 : 0 < cl t) (h2 : 0 < cl s) : 100 ≤ bd t s ↔ cl s ≤ cl t := by
  unfold bd
  rw [if_neg (by omega), if_neg (by omega)]
  have := bw_hundred (cl t).toNat (cl s).toNat (by omega)
  omega
end Go.Proofs.YtkmeeblkckfepabGreat
