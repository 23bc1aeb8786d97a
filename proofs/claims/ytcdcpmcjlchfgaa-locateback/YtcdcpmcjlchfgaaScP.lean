/-
  Plain arithmetic of whole numbers, with no program in sight: the number that is nearest within the bounds (cl), and how the quotient rounded down follows from the one that is cut towards nought.
-/
import Derived.KernelRfl
namespace Go.Proofs.Ytcdcpmcjlchfgaa.Sc

def cl (a : Int) : Int := if a < -1152921504606846976 then -1152921504606846976 else if 1152921504606846976 < a then 1152921504606846976 else a

theorem cl_le (a : Int) : -1152921504606846976 ≤ cl a ∧ cl a ≤ 1152921504606846976 := by unfold cl; split <;> (try split) <;> omega
theorem cl_zero (a : Int) : cl a = 0 ↔ a = 0 := by unfold cl; split <;> (try split) <;> omega
theorem cl_same (a : Int) (h1 : -1152921504606846976 ≤ a) (h2 : a ≤ 1152921504606846976) : cl a = a := by unfold cl; split <;> (try split) <;> omega
theorem cl_cl (a : Int) : cl (cl a) = cl a := cl_same _ (cl_le a).1 (cl_le a).2
theorem cl_neg (a : Int) : cl a < 0 ↔ a < 0 := by unfold cl; split <;> (try split) <;> omega
theorem cl_pos (a : Int) : 0 < cl a ↔ 0 < a := by unfold cl; split <;> (try split) <;> omega

theorem fd_uniq (x y q r : Int) (h : x = q * y + r) (hr : (0 ≤ r ∧ r < y) ∨ (y < r ∧ r ≤ 0)) : x.fdiv y = q ∧ x.fmod y = r := by
  have key : ∀ (x y q r : Int), x = q * y + r → 0 ≤ r → r < y → x.fdiv y = q := by
    intro x y q r h h0 h1
    rw [Int.fdiv_eq_ediv_of_nonneg _ (by omega)]
    have e : r + y * q = x := by rw [h, Int.mul_comm]; omega
    exact ((Int.ediv_emod_unique (by omega)).2 ⟨e, h0, h1⟩).1
  have hq : x.fdiv y = q := by
    rcases hr with ⟨a, b⟩ | ⟨a, b⟩
    · exact key x y q r h a b
    · rw [← Int.neg_fdiv_neg]
      exact key (-x) (-y) q (-r) (by rw [h, Int.mul_neg]; omega) (by omega) (by omega)
  refine ⟨hq, ?_⟩
  have := Int.fmod_add_mul_fdiv x y
  rw [hq, Int.mul_comm] at this
  omega

theorem fd_spec (x y : Int) (hy : y ≠ 0) : x = x.fdiv y * y + x.fmod y ∧ ((0 < y ∧ 0 ≤ x.fmod y ∧ x.fmod y < y) ∨ (y < 0 ∧ y < x.fmod y ∧ x.fmod y ≤ 0)) := by
  have h := Int.fmod_add_mul_fdiv x y
  refine ⟨by rw [Int.mul_comm]; omega, ?_⟩
  by_cases hp : 0 < y
  · exact Or.inl ⟨hp, Int.fmod_nonneg_of_pos _ hp, Int.fmod_lt_of_pos _ hp⟩
  · have hn : y < 0 := by omega
    refine Or.inr ⟨hn, ?_⟩
    have e : x.fmod y = -((-x).fmod (-y)) := by rw [Int.neg_fmod_neg]; omega
    have a := Int.fmod_nonneg_of_pos (-x) (b := -y) (by omega)
    have b := Int.fmod_lt_of_pos (-x) (b := -y) (by omega)
    omega

theorem tm_spec (x y : Int) (hy : y ≠ 0) : x = x.tdiv y * y + x.tmod y ∧ ((0 ≤ x ∧ 0 ≤ x.tmod y) ∨ (x ≤ 0 ∧ x.tmod y ≤ 0)) ∧ ((0 < y ∧ -y < x.tmod y ∧ x.tmod y < y) ∨ (y < 0 ∧ y < x.tmod y ∧ x.tmod y < -y)) := by
  have h := Int.tmod_add_mul_tdiv x y
  have hl := Int.natAbs_tmod x y
  have hlt : x.natAbs % y.natAbs < y.natAbs := Nat.mod_lt _ (by omega)
  refine ⟨by rw [Int.mul_comm]; omega, ?_, by omega⟩
  by_cases hx : 0 ≤ x
  · exact Or.inl ⟨hx, Int.tmod_nonneg _ hx⟩
  · refine Or.inr ⟨by omega, ?_⟩
    have := Int.tmod_nonneg y (a := -x) (by omega)
    rw [Int.neg_tmod] at this; omega

theorem fd_same (x y : Int) (hy : y ≠ 0) (h : x.tmod y = 0 ∨ (x.tmod y < 0 ↔ y < 0)) : x.fdiv y = x.tdiv y ∧ x.fmod y = x.tmod y := by
  obtain ⟨h1, h2, h3⟩ := tm_spec x y hy
  exact fd_uniq x y _ _ h1 (by omega)

theorem fd_less (x y : Int) (hy : y ≠ 0) (h0 : ¬ x.tmod y = 0) (h : ¬ (x.tmod y < 0 ↔ y < 0)) : x.fdiv y = x.tdiv y - 1 ∧ x.fmod y = x.tmod y + y := by
  obtain ⟨h1, h2, h3⟩ := tm_spec x y hy
  exact fd_uniq x y _ _ (by rw [Int.sub_mul]; omega) (by omega)

theorem td_le (x y : Int) : (0 ≤ x → -x ≤ x.tdiv y ∧ x.tdiv y ≤ x) ∧ (x ≤ 0 → x ≤ x.tdiv y ∧ x.tdiv y ≤ -x) := by
  have h := Int.natAbs_tdiv_le_natAbs x y
  omega

theorem quo_le (x q y r B : Int) (h1 : -B ≤ x) (h2 : x ≤ B) (e : x = q * y + r) (a : 0 ≤ r) (b : r < y) : -B ≤ q ∧ q ≤ B := by
  constructor
  · by_cases c : q < -B
    · exfalso
      have : (q + 1) * y ≤ (-B) * 1 := by
        have h3 : (q + 1) * y ≤ (-B) * y := Int.mul_le_mul_of_nonneg_right (by omega) (by omega)
        have h4 : B * 1 ≤ B * y := Int.mul_le_mul_of_nonneg_left (by omega) (by omega)
        rw [Int.neg_mul] at h3
        omega
      rw [Int.add_mul] at this; omega
    · omega
  · by_cases c : B < q
    · exfalso
      have h3 : (B + 1) * 1 ≤ q * y := by
        have h4 : (B + 1) * 1 ≤ (B + 1) * y := Int.mul_le_mul_of_nonneg_left (by omega) (by omega)
        have h5 : (B + 1) * y ≤ q * y := Int.mul_le_mul_of_nonneg_right (by omega) (by omega)
        omega
      omega
    · omega

theorem fd_le (x y B : Int) (hy : y ≠ 0) (h1 : -B ≤ x) (h2 : x ≤ B) : -B ≤ x.fdiv y ∧ x.fdiv y ≤ B := by
  obtain ⟨e, h⟩ := fd_spec x y hy
  rcases h with ⟨a, b, c⟩ | ⟨a, b, c⟩
  · exact quo_le x _ y _ B h1 h2 e b c
  · exact quo_le (-x) _ (-y) (-(x.fmod y)) B (by omega) (by omega) (by rw [Int.mul_neg]; omega) (by omega) (by omega)
end Go.Proofs.Ytcdcpmcjlchfgaa.Sc
