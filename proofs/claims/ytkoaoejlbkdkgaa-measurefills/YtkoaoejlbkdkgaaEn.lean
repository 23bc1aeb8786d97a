/-
  Plain arithmetic: a fraction in lowest terms is the fraction; a line that is set is as wide as it should be. No walk.
-/
import Derived.Test.YtkoaoejlbkdkgaaEb
namespace Go.Proofs.Ytkoaoejlbkdkgaa
set_option linter.unusedSimpArgs false
set_option linter.unusedVariables false

theorem gs_pos (a b : Int) (h : 0 < b) (hb : b ≤ 1152921504606846976) : gs a b = gc a b ∧ 1 ≤ gc a b := by
  have h1 := gc_pos a b (by omega)
  have h2 : ¬ cl b < 0 := by have := cl_neg b; omega
  unfold gs
  rw [if_neg h2]
  exact ⟨rfl, h1.1⟩
/-- Both numbers are the fraction's, as many times. -/
theorem lo_parts (a b : Int) (h : 0 < b) (hb : b ≤ 1152921504606846976) (ha : -1152921504606846976 ≤ a ∧ a ≤ 1152921504606846976) :
    ∃ g : Int, 1 ≤ g ∧ a = g * lo1 a b ∧ b = g * lo2 a b := by
  obtain ⟨e, hg⟩ := gs_pos a b h hb
  have ca : cl a = a := cl_same a ha.1 ha.2
  have cb : cl b = b := cl_same b (by omega) hb
  refine ⟨gc a b, hg, ?_, ?_⟩
  · unfold lo1
    rw [if_neg (by omega), e, ca]
    have hd : gc a b ∣ a := by
      unfold gc
      rw [ca]
      exact Int.ofNat_dvd_left.2 (Nat.gcd_dvd_left _ _)
    exact (Int.mul_tdiv_cancel' hd).symm
  · unfold lo2
    rw [if_neg (by omega), e, cb]
    have hd : gc a b ∣ b := by
      unfold gc
      rw [cb]
      exact Int.ofNat_dvd_left.2 (Nat.gcd_dvd_right _ _)
    exact (Int.mul_tdiv_cancel' hd).symm
theorem lo_mul (a b : Int) (h : 0 < b) (hb : b ≤ 1152921504606846976) (ha : -1152921504606846976 ≤ a ∧ a ≤ 1152921504606846976) : a * lo2 a b = b * lo1 a b := by
  obtain ⟨g, hg, e1, e2⟩ := lo_parts a b h hb ha
  generalize lo1 a b = x at *
  generalize lo2 a b = y at *
  subst e1; subst e2
  rw [Int.mul_assoc, Int.mul_assoc, Int.mul_comm x y]
theorem le_times (g x : Int) (hg : 1 ≤ g) : (0 ≤ x → x ≤ g * x) ∧ (x ≤ 0 → g * x ≤ x) := by
  constructor
  · intro h
    have := Int.mul_le_mul_of_nonneg_right hg h
    omega
  · intro h
    have := Int.mul_le_mul_of_nonneg_right (c := -x) hg (by omega)
    simp only [Int.mul_neg, Int.one_mul] at this
    omega
theorem lo_bounds (a b : Int) (h : 0 < b) (hb : b ≤ 1152921504606846976) (ha : -1152921504606846976 ≤ a ∧ a ≤ 1152921504606846976) :
    (1 ≤ lo2 a b ∧ lo2 a b ≤ b) ∧ (0 ≤ a → 0 ≤ lo1 a b ∧ lo1 a b ≤ a) ∧ (a < 0 → a ≤ lo1 a b ∧ lo1 a b < 0) := by
  obtain ⟨g, hg, e1, e2⟩ := lo_parts a b h hb ha
  have hp := lo2_pos a b
  generalize lo1 a b = x at *
  generalize lo2 a b = y at *
  have h1 := le_times g x hg
  have h2 := le_times g y hg
  subst e1; subst e2
  refine ⟨⟨by omega, h2.1 (by omega)⟩, fun c => ?_, fun c => ?_⟩
  · by_cases d : 0 ≤ x
    · exact ⟨d, h1.1 d⟩
    · have := h1.2 (by omega); omega
  · by_cases d : x < 0
    · exact ⟨h1.2 (by omega), d⟩
    · have := h1.1 (by omega); omega
theorem loo_le (b : Int) : 0 ≤ loo b ∧ loo b ≤ 3 := by unfold loo; split <;> (try split) <;> omega
theorem tig_le (b : Int) : 0 ≤ tig b ∧ tig b ≤ 3 := by unfold tig; split <;> omega
/-- What a line that is set has to be. -/
theorem set_facts (s : Sm) (width : Int) (hw : 0 ≤ s.w ∧ s.w ≤ 268435456) (hs : 0 ≤ s.st ∧ s.st ≤ 268435456) (hh : 0 ≤ s.sh ∧ s.sh ≤ 268435456) (hd : 0 ≤ width ∧ width ≤ 268435456) :
    (1 ≤ (setF s width).den ∧ (setF s width).den ≤ 268435456) ∧ (-268435456 ≤ (setF s width).num ∧ (setF s width).num ≤ 268435456) ∧ (0 ≤ (setF s width).bad ∧ (setF s width).bad ≤ 10000) ∧ (0 ≤ (setF s width).cls ∧ (setF s width).cls ≤ 3) ∧
    (setF s width).over = decide (width < s.w - s.sh) ∧
    ((setF s width).over = false → ¬ (s.w < width ∧ (0 < s.f ∨ s.st = 0)) → (width - s.w) * (setF s width).den = (if (setF s width).num < 0 then s.sh else s.st) * (setF s width).num) := by
  unfold setF
  by_cases c1 : width - s.w = 0 ∨ (0 < width - s.w ∧ 0 < s.f)
  · rw [if_pos c1]
    refine ⟨by simp, by simp, by simp, by simp, by simp; omega, fun _ h => ?_⟩
    have : width - s.w = 0 := by omega
    rw [this]; simp
  rw [if_neg c1]
  by_cases c2 : 0 < width - s.w
  · rw [if_pos c2]
    unfold stF
    by_cases c3 : s.st = 0
    · rw [if_pos c3]
      refine ⟨by simp, by simp, by simp, by simp, by simp; omega, fun _ h => ?_⟩
      exact absurd ⟨by omega, .inr c3⟩ h
    · rw [if_neg c3]
      have hb := lo_bounds (width - s.w) s.st (by omega) (by omega) (by omega)
      have hm := lo_mul (width - s.w) s.st (by omega) (by omega) (by omega)
      have b1 := bd_le (width - s.w) s.st
      have b2 := loo_le (bd (width - s.w) s.st)
      refine ⟨by simp only; omega, by simp only; omega, b1, b2, by simp; omega, fun _ _ => ?_⟩
      simp only
      rw [if_neg (by omega)]
      exact hm
  · rw [if_neg c2]
    unfold shF
    by_cases c3 : s.sh < -(width - s.w)
    · rw [if_pos c3]
      unfold ovF
      refine ⟨by simp, by simp only; split <;> omega, by simp, by simp, by simp; omega, fun h => by cases h⟩
    · rw [if_neg c3, Int.neg_neg]
      have hb := lo_bounds (width - s.w) s.sh (by omega) (by omega) (by omega)
      have hm := lo_mul (width - s.w) s.sh (by omega) (by omega) (by omega)
      have b1 := bd_le (-(width - s.w)) s.sh
      have b2 := tig_le (bd (-(width - s.w)) s.sh)
      refine ⟨by simp only; omega, by simp only; omega, b1, b2, by simp; omega, fun _ _ => ?_⟩
      simp only
      rw [if_pos (by omega)]
      exact hm
end Go.Proofs.Ytkoaoejlbkdkgaa
