/-
  What the document's Less answers for fractions with numbers above 0 below the line: the same as the program's; and that two fractions in lowest terms are the same just if neither is less.
-/
import Derived.Test.YtkpikienkmdcaaaI
namespace Go.Proofs.Ytkpikienkmdcaaa
open Go.RowKit
set_option linter.unusedSimpArgs false
set_option linter.unusedVariables false

theorem abs_pos (x y : Int) (h1 : 0 ≤ x) (h2 : 0 ≤ y) : ((x.natAbs * y.natAbs : Nat) : Int) = x * y := by rw [Int.natCast_mul]; congr 1 <;> omega
theorem abs_neg (x y : Int) (h1 : x ≤ 0) (h2 : 0 ≤ y) : ((x.natAbs * y.natAbs : Nat) : Int) = -(x * y) := by
  rw [Int.natCast_mul, ← Int.neg_mul]; congr 1 <;> omega

/-- What the document's Less makes of the comparison without signs. -/
theorem ls_ref (a b c d : Int) (hb : 0 < b) (hd : 0 < d) :
    (cl a < 0 → cl c < 0 → decide (0 < cp ((cl a).natAbs * (cl d).natAbs) ((cl c).natAbs * (cl b).natAbs)) = ls a b c d) ∧
    (cl a < 0 → 0 ≤ cl c → ls a b c d = true) ∧ (0 ≤ cl a → cl c < 0 → ls a b c d = false) ∧
    (0 ≤ cl a → 0 ≤ cl c → decide (cp ((cl a).natAbs * (cl d).natAbs) ((cl c).natAbs * (cl b).natAbs) < 0) = ls a b c d) := by
  have hb' := (cl_pos b).2 hb
  have hd' := (cl_pos d).2 hd
  unfold ls
  refine ⟨?_, ?_, ?_, ?_⟩
  · intro h1 h2
    have e1 := abs_neg (cl a) (cl d) (by omega) (by omega)
    have e2 := abs_neg (cl c) (cl b) (by omega) (by omega)
    rw [decide_eq_decide]
    generalize (cl a).natAbs * (cl d).natAbs = x at *
    generalize (cl c).natAbs * (cl b).natAbs = y at *
    unfold cp
    split
    · omega
    · split <;> omega
  · intro h1 h2
    have e1 : cl a * cl d < 0 := Int.mul_neg_of_neg_of_pos h1 hd'
    have e2 : 0 ≤ cl c * cl b := Int.mul_nonneg h2 (by omega)
    rw [decide_eq_true_eq]; omega
  · intro h1 h2
    have e1 : 0 ≤ cl a * cl d := Int.mul_nonneg h1 (by omega)
    have e2 : cl c * cl b < 0 := Int.mul_neg_of_neg_of_pos h2 hb'
    rw [decide_eq_false_iff_not]; omega
  · intro h1 h2
    have e1 := abs_pos (cl a) (cl d) (by omega) (by omega)
    have e2 := abs_pos (cl c) (cl b) (by omega) (by omega)
    rw [decide_eq_decide]
    generalize (cl a).natAbs * (cl d).natAbs = x at *
    generalize (cl c).natAbs * (cl b).natAbs = y at *
    unfold cp
    split
    · omega
    · split <;> omega

set_option maxHeartbeats 1000000 in
theorem refless_any (a b c d : Int) (w : World) (hb : 0 < b) (hd : 0 < d) :
    Calls Try.prog 30 #[.int .i64 a, .int .i64 b, .int .i64 c, .int .i64 d] w fun e w' => e = .returned (.bool (ls a b c d)) ∧ Below w.heap.size w w' := by
  have q1 := cl_le a
  have q2 := cl_le b
  have q3 := cl_le c
  have q4 := cl_le d
  have HL := hidq (ls_ref a b c d hb hd)
  clear hb hd
  go_enter Try.func30, Try.ntmps30
  go_wp2_with (go_at_call 10; refine (refclamp_any _ _).mono ?_; rintro e w' ⟨rfl, hw'⟩; subst w')
  refine (of_any _ _).mono ?_
  rintro e w1 ⟨ao1, cap1, r1, rfl, hd1, hc1, hv1, hb1⟩
  rw [cl_cl] at hv1
  have k1 : r1.length ≤ 7 := dig7 hc1 (by omega)
  have HD1 := hid hd1
  have HC1 := hid hc1
  have HV1 := hid hv1
  have HB1 := hid hb1
  clear hd1 hc1 hv1 hb1
  go_wp2_with fail
  refine (of_any _ _).mono ?_
  rintro e w2 ⟨ao2, cap2, r2, rfl, hd2, hc2, hv2, hb2⟩
  rw [cl_cl] at hv2
  have k2 : r2.length ≤ 7 := dig7 hc2 (by omega)
  have HD2 := hid hd2
  have HC2 := hid hc2
  have HV2 := hid hv2
  have HB2 : Hid (Below w.heap.size w w2) := HB1.out.trans (hb2.mono HB1.out.size)
  have HD1' := hid (HD1.out.below hb2)
  clear hd2 hc2 hv2 hb2 HD1
  go_wp2_with fail
  refine (times_any _ _ r1 _ _ r2 _ HD1'.out (by omega) HC1.out.1 HD2.out (by omega) HC2.out.1).mono ?_
  rintro e w3 ⟨ao3, cap3, r3, rfl, hd3, hc3, hv3, hb3⟩
  have k3 : r3.length ≤ 14 := by
    refine hc3.len 14 ?_
    rw [hv3, HV1.out, HV2.out]
    have h1 : (cl a).natAbs * (cl d).natAbs ≤ 1152921504606846976 * 1152921504606846976 := Nat.mul_le_mul (by omega) (by omega)
    have h2 : (1000 : Nat) ^ 14 = 1000000000000000000000000000000000000000000 := by decide
    omega
  have HD3 := hid hd3
  have HC3 := hid hc3
  have HV3 : Hid (vl r3 = (cl a).natAbs * (cl d).natAbs) := by show _ = _; rw [hv3, HV1.out, HV2.out]
  have HB3 : Hid (Below w.heap.size w w3) := HB2.out.trans (hb3.mono HB2.out.size)
  clear hd3 hc3 hv3 hb3
  go_wp2_with fail
  refine (of_any _ _).mono ?_
  rintro e w4 ⟨ao4, cap4, r4, rfl, hd4, hc4, hv4, hb4⟩
  rw [cl_cl] at hv4
  have k4 : r4.length ≤ 7 := dig7 hc4 (by omega)
  have HD4 := hid hd4
  have HC4 := hid hc4
  have HV4 := hid hv4
  have HB4 : Hid (Below w.heap.size w w4) := HB3.out.trans (hb4.mono HB3.out.size)
  have HD3' := hid (HD3.out.below hb4)
  clear hd4 hc4 hv4 hb4 HD3
  go_wp2_with fail
  refine (of_any _ _).mono ?_
  rintro e w5 ⟨ao5, cap5, r5, rfl, hd5, hc5, hv5, hb5⟩
  rw [cl_cl] at hv5
  have k5 : r5.length ≤ 7 := dig7 hc5 (by omega)
  have HD5 := hid hd5
  have HC5 := hid hc5
  have HV5 := hid hv5
  have HB5 : Hid (Below w.heap.size w w5) := HB4.out.trans (hb5.mono HB4.out.size)
  have HD3'' := hid (HD3'.out.below hb5)
  have HD4' := hid (HD4.out.below hb5)
  clear hd5 hc5 hv5 hb5 HD3' HD4
  go_wp2_with fail
  refine (times_any _ _ r4 _ _ r5 _ HD4'.out (by omega) HC4.out.1 HD5.out (by omega) HC5.out.1).mono ?_
  rintro e w6 ⟨ao6, cap6, r6, rfl, hd6, hc6, hv6, hb6⟩
  have k6 : r6.length ≤ 14 := by
    refine hc6.len 14 ?_
    rw [hv6, HV4.out, HV5.out]
    have h1 : (cl c).natAbs * (cl b).natAbs ≤ 1152921504606846976 * 1152921504606846976 := Nat.mul_le_mul (by omega) (by omega)
    have h2 : (1000 : Nat) ^ 14 = 1000000000000000000000000000000000000000000 := by decide
    omega
  have HD6 := hid hd6
  have HC6 := hid hc6
  have HV6 : Hid (vl r6 = (cl c).natAbs * (cl b).natAbs) := by show _ = _; rw [hv6, HV4.out, HV5.out]
  have HB6 : Hid (Below w.heap.size w w6) := HB5.out.trans (hb6.mono HB5.out.size)
  have HD3z := hid (HD3''.out.below hb6)
  clear hd6 hc6 hv6 hb6 HD3''
  go_wp2_with fail
  refine (compare_any _ _ r3 _ _ r6 _ HD3z.out (by omega) HC3.out.1 HD6.out (by omega) HC6.out.1).mono ?_
  rintro e w7 ⟨rfl, hb7⟩
  have HB7 : Hid (Below w.heap.size w w7) := HB6.out.trans (hb7.mono HB6.out.size)
  rw [HV3.out, HV6.out]
  clear hb7 k1 k2 k3 k4 k5 k6
  generalize cp ((cl a).natAbs * (cl d).natAbs) ((cl c).natAbs * (cl b).natAbs) = cc at *
  by_cases s1 : cl a < 0
  · by_cases s2 : cl c < 0
    · have HR : Box (decide (0 < cc) = ls a b c d) := ⟨HL.out.1 s1 s2⟩
      go_wp2_with fail
      go_ret
      exact ⟨ret_bool HR.out, HB7.out⟩
    · have HR : Box (ls a b c d = true) := ⟨HL.out.2.1 s1 (by omega)⟩
      go_wp2_with fail
      go_ret
      exact ⟨ret_bool HR.out.symm, HB7.out⟩
  · by_cases s2 : cl c < 0
    · have HR : Box (ls a b c d = false) := ⟨HL.out.2.2.1 (by omega) s2⟩
      have g : decide (cl a < 0) = false := by simpa using s1
      go_wp2_with fail
      go_ret
      exact ⟨ret_bool HR.out.symm, HB7.out⟩
    · have HR : Box (decide (cc < 0) = ls a b c d) := ⟨HL.out.2.2.2 (by omega) (by omega)⟩
      have g : decide (cl a < 0) = false := by simpa using s1
      go_wp2_with fail
      go_ret
      exact ⟨ret_bool HR.out, HB7.out⟩

/-- Two fractions with no common divisor above and below are the same if they are worth the same. -/
theorem lowest_uniq (p q r s : Int) (hq : 0 < q) (hs : 0 < s) (h1 : Nat.Coprime p.natAbs q.natAbs) (h2 : Nat.Coprime r.natAbs s.natAbs) (h : p * s = r * q) : p = r ∧ q = s := by
  have hn : p.natAbs * s.natAbs = r.natAbs * q.natAbs := by rw [← Int.natAbs_mul, ← Int.natAbs_mul, h]
  have d1 : q.natAbs ∣ s.natAbs := (Nat.Coprime.symm h1).dvd_of_dvd_mul_left (k := q.natAbs) ⟨r.natAbs, by rw [hn, Nat.mul_comm]⟩
  have d2 : s.natAbs ∣ q.natAbs := (Nat.Coprime.symm h2).dvd_of_dvd_mul_left (k := s.natAbs) ⟨p.natAbs, by rw [← hn, Nat.mul_comm]⟩
  have e : q.natAbs = s.natAbs := Nat.dvd_antisymm d1 d2
  have eq : q = s := by omega
  subst eq
  exact ⟨Int.eq_of_mul_eq_mul_right (by omega) h, rfl⟩

theorem lo_spec (a b : Int) (hb : 0 < b) : ∃ g : Int, 0 < g ∧ cl a = g * lo1 a b ∧ cl b = g * lo2 a b ∧ Nat.Coprime (lo1 a b).natAbs (lo2 a b).natAbs := by
  have hb0 : ¬ b = 0 := by omega
  have hb' := (cl_pos b).2 hb
  have hp := gc_pos a b hb0
  have e0 : gs a b = gc a b := by unfold gs; rw [if_neg (by omega)]
  have e1 : lo1 a b = (cl a).tdiv (gc a b) := by unfold lo1; rw [if_neg hb0, e0]
  have e2 : lo2 a b = (cl b).tdiv (gc a b) := by unfold lo2; rw [if_neg hb0, e0]
  have d1 : gc a b ∣ cl a := by unfold gc; exact Int.ofNat_dvd_left.2 (Nat.gcd_dvd_left _ _)
  have d2 : gc a b ∣ cl b := by unfold gc; exact Int.ofNat_dvd_left.2 (Nat.gcd_dvd_right _ _)
  refine ⟨gc a b, by omega, ?_, ?_, ?_⟩
  · rw [e1, Int.mul_tdiv_cancel' d1]
  · rw [e2, Int.mul_tdiv_cancel' d2]
  · rw [e1, e2, Int.natAbs_tdiv, Int.natAbs_tdiv]
    have eg : (gc a b).natAbs = Nat.gcd (cl a).natAbs (cl b).natAbs := by unfold gc; simp
    rw [eg]
    exact Nat.coprime_div_gcd_div_gcd (by have := gc_pos a b hb0; omega)

theorem mul4 (a b c d : Int) : a * b * (c * d) = a * c * (b * d) := by rw [Int.mul_assoc, Int.mul_assoc, Int.mul_left_comm b]

theorem lowest_same (a b c d : Int) (hb : 0 < b) (hd : 0 < d) : (lo1 a b = lo1 c d ∧ lo2 a b = lo2 c d) ↔ (ls a b c d = false ∧ ls c d a b = false) := by
  obtain ⟨g, hg, a1, a2, a3⟩ := lo_spec a b hb
  obtain ⟨h, hh, b1, b2, b3⟩ := lo_spec c d hd
  have p1 := lo2_pos a b
  have p2 := lo2_pos c d
  have key : (ls a b c d = false ∧ ls c d a b = false) ↔ cl a * cl d = cl c * cl b := by
    unfold ls
    simp only [decide_eq_false_iff_not]
    omega
  rw [key, a1, a2, b1, b2]
  constructor
  · rintro ⟨e1, e2⟩
    rw [e1, e2, mul4, mul4 h, Int.mul_comm g h]
  · intro e
    rw [mul4, mul4 h, Int.mul_comm h g] at e
    have hgh : g * h ≠ 0 := by
      have := Int.mul_pos hg hh
      omega
    have e' := Int.eq_of_mul_eq_mul_left hgh e
    exact lowest_uniq _ _ _ _ p1 p2 a3 b3 e'

theorem ls_not_both (a b c d : Int) : ls a b c d = true → ls c d a b = false := by
  unfold ls
  simp only [decide_eq_true_eq, decide_eq_false_iff_not]
  omega
end Go.Proofs.Ytkpikienkmdcaaa
