/-
  Plain arithmetic: a number of 128 bits divided by one of 64, half a word of the quotient at a time, each estimated from the divisor's upper half and taken down till it fits. No program in sight.
-/
import Derived.KernelRfl
import Derived.Lib.BitFns
namespace Go.Proofs.Ytcdcpmcjlchfgaa.Sc

theorem bitLen_bounds : ∀ (k x : Nat), x < 2 ^ k → x ≠ 0 → x < 2 ^ 64 → 1 ≤ Lib.bitLen x ∧ 2 ^ (Lib.bitLen x - 1) ≤ x ∧ x < 2 ^ Lib.bitLen x := by
  intro k
  induction k with
  | zero => intro x h h0 _; simp at h; exact absurd h h0
  | succ k ih =>
    intro x h h0 h64
    have e := Lib.bitLen_half x h0 h64
    by_cases c : x / 2 = 0
    · have hx : x = 1 := by omega
      subst hx
      decide
    · have hk : x / 2 < 2 ^ k := by rw [Nat.pow_succ] at h; omega
      obtain ⟨a, b, d⟩ := ih (x / 2) hk c (by omega)
      rw [e]
      generalize Lib.bitLen (x / 2) = m at *
      refine ⟨by omega, ?_, ?_⟩
      · rw [show 1 + m - 1 = (m - 1) + 1 by omega, Nat.pow_succ]; omega
      · rw [show 1 + m = m + 1 by omega, Nat.pow_succ]; omega

/-- The shift that brings the divisor to 64 bits. -/
theorem norm_bounds (y : Nat) (h0 : y ≠ 0) (h : y ≤ 1152921504606846976) : 3 ≤ 64 - Lib.bitLen y ∧ 64 - Lib.bitLen y ≤ 63 ∧ 9223372036854775808 ≤ y * 2 ^ (64 - Lib.bitLen y) ∧ y * 2 ^ (64 - Lib.bitLen y) < 18446744073709551616 := by
  obtain ⟨a, b, c⟩ := bitLen_bounds 64 y (by omega) h0 (by omega)
  have d : Lib.bitLen y ≤ 61 := by
    by_cases q : Lib.bitLen y ≤ 61
    · exact q
    · exfalso
      have : 2 ^ 61 ≤ 2 ^ (Lib.bitLen y - 1) := Nat.pow_le_pow_right (by omega) (by omega)
      omega
  generalize Lib.bitLen y = m at *
  refine ⟨by omega, by omega, ?_, ?_⟩
  · have : 2 ^ (m - 1) * 2 ^ (64 - m) ≤ y * 2 ^ (64 - m) := Nat.mul_le_mul_right _ b
    rw [← Nat.pow_add, show m - 1 + (64 - m) = 63 by omega] at this
    omega
  · have : y * 2 ^ (64 - m) < 2 ^ m * 2 ^ (64 - m) := Nat.mul_lt_mul_of_pos_right c (Nat.pow_pos (by omega))
    rw [← Nat.pow_add, show m + (64 - m) = 64 by omega] at this
    omega

/-- The estimate q for the half word, with its rest r: never too small. -/
structure Kn (u v y1 y0 q r : Nat) : Prop where
  sum : q * y1 + r = u
  low : (u * 4294967296 + v) / (y1 * 4294967296 + y0) ≤ q
  rlt : r < 4294967296

/-- What is asked of the numbers: the divisor's halves, the upper one with its highest bit set; the upper part of the number less than the divisor. -/
structure Ks (u v y1 y0 : Nat) : Prop where
  y1l : 2147483648 ≤ y1
  y1h : y1 < 4294967296
  y0h : y0 < 4294967296
  vh : v < 4294967296
  uh : u < y1 * 4294967296 + y0

theorem Ks.start {u v y1 y0 : Nat} (h : Ks u v y1 y0) : Kn u v y1 y0 (u / y1) (u % y1) := by
  have hl := h.y1l
  have hh := h.y1h
  refine ⟨?_, ?_, ?_⟩
  · rw [Nat.mul_comm]; exact Nat.div_add_mod u y1
  · generalize hQ : (u * 4294967296 + v) / (y1 * 4294967296 + y0) = Q
    have h1 : Q * (y1 * 4294967296 + y0) ≤ u * 4294967296 + v := by rw [← hQ]; exact Nat.div_mul_le_self _ _
    have h2 : Q * (y1 * 4294967296 + y0) = (Q * y1) * 4294967296 + Q * y0 := by rw [Nat.mul_add, Nat.mul_assoc]
    have h3 : Q * y1 ≤ u := by have := h.vh; omega
    exact (Nat.le_div_iff_mul_le (by omega)).2 h3
  · have := Nat.mod_lt u (show 0 < y1 by omega)
    omega

theorem Ks.small {u v y1 y0 : Nat} (h : Ks u v y1 y0) : (u * 4294967296 + v) / (y1 * 4294967296 + y0) < 4294967296 := by
  have := h.uh
  have := h.vh
  rw [Nat.div_lt_iff_lt_mul (by omega)]
  omega

theorem Kn.most {u v y1 y0 q r : Nat} (s : Ks u v y1 y0) (h : Kn u v y1 y0 q r) : q ≤ 4294967297 := by
  have h1 := h.sum
  have h2 := s.uh
  have h3 := s.y1l
  have h4 := s.y0h
  by_cases c : q ≤ 4294967297
  · exact c
  · exfalso
    have : 4294967298 * y1 ≤ q * y1 := Nat.mul_le_mul_right _ (by omega)
    omega

/-- Too great: the test says yes. -/
theorem Kn.over {u v y1 y0 q r : Nat} (s : Ks u v y1 y0) (h : Kn u v y1 y0 q r) (t : 4294967296 ≤ q ∨ 4294967296 * r + v < q * y0) : (u * 4294967296 + v) / (y1 * 4294967296 + y0) < q := by
  rcases t with t | t
  · have := s.small; omega
  · have h1 := h.sum
    have := s.y1l
    rw [Nat.div_lt_iff_lt_mul (by omega)]
    have e : q * (y1 * 4294967296 + y0) = (q * y1) * 4294967296 + q * y0 := by rw [Nat.mul_add, Nat.mul_assoc]
    rw [e]
    omega

/-- It fits: the test says no. -/
theorem Kn.done {u v y1 y0 q r : Nat} (s : Ks u v y1 y0) (h : Kn u v y1 y0 q r) (t : q * y0 ≤ 4294967296 * r + v) : q = (u * 4294967296 + v) / (y1 * 4294967296 + y0) := by
  have h1 := h.sum
  have h2 := h.low
  have := s.y1l
  have e : q * (y1 * 4294967296 + y0) = (q * y1) * 4294967296 + q * y0 := by rw [Nat.mul_add, Nat.mul_assoc]
  have : q ≤ (u * 4294967296 + v) / (y1 * 4294967296 + y0) := (Nat.le_div_iff_mul_le (by omega)).2 (by rw [e]; omega)
  omega

theorem Kn.pos {u v y1 y0 q r : Nat} (s : Ks u v y1 y0) (h : Kn u v y1 y0 q r) (t : 4294967296 ≤ q ∨ 4294967296 * r + v < q * y0) : 1 ≤ q := by
  exact Nat.lt_of_le_of_lt (Nat.zero_le _) (h.over s t)

/-- Taken down by one, the rest still short. -/
theorem Kn.next {u v y1 y0 q r : Nat} (s : Ks u v y1 y0) (h : Kn u v y1 y0 q r) (t : 4294967296 ≤ q ∨ 4294967296 * r + v < q * y0) (hr : r + y1 < 4294967296) : Kn u v y1 y0 (q - 1) (r + y1) := by
  have h1 := h.sum
  have h2 := h.over s t
  have hp := h.pos s t
  refine ⟨?_, Nat.le_sub_one_of_lt h2, hr⟩
  rw [Nat.sub_mul]
  have : 1 * y1 ≤ q * y1 := Nat.mul_le_mul_right _ (by omega)
  omega

/-- Taken down by one, the rest too long for the test to say yes again. -/
theorem Kn.stop {u v y1 y0 q r : Nat} (s : Ks u v y1 y0) (h : Kn u v y1 y0 q r) (t : 4294967296 ≤ q ∨ 4294967296 * r + v < q * y0) (hr : 4294967296 ≤ r + y1) : q - 1 = (u * 4294967296 + v) / (y1 * 4294967296 + y0) := by
  have h1 := h.sum
  have h2 := Nat.le_sub_one_of_lt (h.over s t)
  have hp := h.pos s t
  have h3 := h.most s
  have h4 := s.y0h
  have := s.y1l
  have e : (q - 1) * (y1 * 4294967296 + y0) = ((q - 1) * y1) * 4294967296 + (q - 1) * y0 := by rw [Nat.mul_add, Nat.mul_assoc]
  have e2 : (q - 1) * y1 + (r + y1) = u := by
    rw [Nat.sub_mul]
    have : 1 * y1 ≤ q * y1 := Nat.mul_le_mul_right _ (by omega)
    omega
  have e3 : (q - 1) * y0 ≤ 4294967296 * 4294967295 := Nat.mul_le_mul (by omega) (by omega)
  have : q - 1 ≤ (u * 4294967296 + v) / (y1 * 4294967296 + y0) := (Nat.le_div_iff_mul_le (by omega)).2 (by rw [e]; omega)
  omega

/-- The two halves of the quotient together. -/
theorem kn_whole (U y S u v1 v0 y1 y0 : Nat) (hU : U * S = (u * 4294967296 + v1) * 4294967296 + v0) (hy : y * S = y1 * 4294967296 + y0) (h0 : 0 < y) (hS : 0 < S)
    (Q1 R1 Q0 R0 : Nat) (hQ1 : Q1 = (u * 4294967296 + v1) / (y1 * 4294967296 + y0)) (hR1 : R1 = (u * 4294967296 + v1) % (y1 * 4294967296 + y0))
    (hQ0 : Q0 = (R1 * 4294967296 + v0) / (y1 * 4294967296 + y0)) (hR0 : R0 = (R1 * 4294967296 + v0) % (y1 * 4294967296 + y0)) :
    Q1 * 4294967296 + Q0 = U / y ∧ R0 / S = U % y := by
  rw [← hy] at *
  have e1 : u * 4294967296 + v1 = y * S * Q1 + R1 := by rw [hQ1, hR1]; exact (Nat.div_add_mod _ _).symm
  have e0 : R1 * 4294967296 + v0 = y * S * Q0 + R0 := by rw [hQ0, hR0]; exact (Nat.div_add_mod _ _).symm
  have l0 : R0 < y * S := by rw [hR0]; exact Nat.mod_lt _ (Nat.mul_pos h0 hS)
  have e : U * S = (y * (Q1 * 4294967296 + Q0)) * S + R0 := by
    rw [hU, e1]
    have a1 : y * (Q1 * 4294967296 + Q0) * S = (y * S * Q1) * 4294967296 + y * S * Q0 := by
      rw [Nat.mul_right_comm, Nat.mul_add, Nat.mul_assoc (y * S) Q1]
    rw [a1]
    generalize y * S * Q1 = P at *
    generalize y * S * Q0 = Z at *
    rw [Nat.add_mul, Nat.add_assoc, e0, Nat.add_assoc]
  have hle : y * (Q1 * 4294967296 + Q0) ≤ U := by
    have : (y * (Q1 * 4294967296 + Q0)) * S ≤ U * S := by omega
    exact Nat.le_of_mul_le_mul_right this hS
  have hR : R0 = (U - y * (Q1 * 4294967296 + Q0)) * S := by rw [Nat.sub_mul]; omega
  have hR2 : R0 / S = U - y * (Q1 * 4294967296 + Q0) := by rw [hR, Nat.mul_div_cancel _ hS]
  have hlt : U - y * (Q1 * 4294967296 + Q0) < y := by
    rw [hR] at l0
    exact Nat.lt_of_mul_lt_mul_right l0
  have hdm : U / y = Q1 * 4294967296 + Q0 ∧ U % y = U - y * (Q1 * 4294967296 + Q0) := by
    have := (Nat.div_mod_unique (a := U) (c := U - y * (Q1 * 4294967296 + Q0)) (d := Q1 * 4294967296 + Q0) (b := y) h0).2 ⟨by rw [Nat.sub_add_cancel hle], hlt⟩
    exact this
  exact ⟨hdm.1.symm, by rw [hR2, hdm.2]⟩
end Go.Proofs.Ytcdcpmcjlchfgaa.Sc
