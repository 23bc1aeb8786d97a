/-
  What the document's MulDiv, Div and Mod answer: the same as the program's.
-/
import Derived.Test.YtcdcpmcjlchfgaaScH
namespace Go.Proofs.Ytcdcpmcjlchfgaa.Sc
open Go.RowKit
set_option linter.unusedSimpArgs false
set_option linter.unusedVariables false

theorem qt_true {p z : Nat} (hz : 0 < z) (h : ex p z = true) : p % z = 0 ∧ qt p z = p / z := by
  unfold ex at h
  have h := of_decide_eq_true h
  constructor
  · rw [← h]; exact Nat.mul_mod_left _ _
  · rw [Nat.div_eq_of_eq_mul_left hz h.symm]
theorem qt_false {p z : Nat} (hz : 0 < z) (h : ex p z = false) : (p % z ≠ 0 ∧ qt p z = p / z) ∨ (1152921504606846976 < p / z ∧ qt p z = 1152921504606846976) := by
  unfold ex at h
  have h := of_decide_eq_false h
  by_cases c : p / z ≤ 1152921504606846976
  · left
    have e : qt p z = p / z := Nat.min_eq_left c
    refine ⟨fun h0 => h ?_, e⟩
    rw [e, Nat.mul_comm]
    have := Nat.div_add_mod p z
    omega
  · right
    exact ⟨by omega, Nat.min_eq_right (by omega)⟩

theorem res_plus {p z : Nat} : cl ((p / z : Nat) : Int) = ((qt p z : Nat) : Int) := by
  unfold qt
  generalize p / z = q
  unfold cl
  split
  · omega
  · split <;> omega

theorem res_minus {p z : Nat} {R S : Int} (hz : 0 < z) (hR : R = cl S) (h1 : p % z = 0 → S = -((p / z : Nat) : Int)) (h2 : p % z ≠ 0 → S = -(((p / z : Nat) : Int) + 1)) :
    (ex p z = true → R = -((qt p z : Nat) : Int)) ∧ (ex p z = false → R = cl (-((qt p z : Nat) : Int) - 1)) := by
  constructor
  · intro h
    obtain ⟨a, b⟩ := qt_true hz h
    have := qt_le p z
    rw [hR, h1 a, ← b, cl_same _ (by omega) (by omega)]
  · intro h
    rcases qt_false hz h with ⟨a, b⟩ | ⟨a, b⟩
    · rw [hR, h2 a, b]
      congr 1
      omega
    · rw [hR, b]
      by_cases c : p % z = 0
      · rw [h1 c]; generalize p / z = q at *; unfold cl; rw [if_pos (by omega), if_pos (by omega)]
      · rw [h2 c]; generalize p / z = q at *; unfold cl; rw [if_pos (by omega), if_pos (by omega)]

set_option maxHeartbeats 400000 in
theorem refmuldiv_zero (a b c : Int) (w : World) (hc : (cl c == 0) = true) :
    Calls Try.prog 63 #[.int .i64 a, .int .i64 b, .int .i64 c] w fun e w' => e = .returned (.tuple #[.int .i64 0, .bool false]) ∧ Below w.heap.size w w' := by
  go_enter Try.func63, Try.ntmps63
  go_wp2_with (go_at_call 62; refine (refclamp_any _ _).mono ?_; rintro e w' ⟨rfl, hw'⟩; subst w')
  go_ret2
  exact ⟨rfl, Below.refl _ _⟩

set_option maxHeartbeats 1000000 in
theorem refmuldiv_111 (a b c R : Int) (w : World) (hc : (cl c == 0) = false) (s1 : cl a < 0) (s2 : cl b < 0) (s3 : cl c < 0) (HR : Box (R = cl ((cl a * cl b).fdiv (cl c)))) :
    Calls Try.prog 63 #[.int .i64 a, .int .i64 b, .int .i64 c] w fun e w' => e = .returned (.tuple #[.int .i64 R, .bool true]) ∧ Below w.heap.size w w' := by
  have ha := cl_le a
  have hb := cl_le b
  have hcl := cl_le c
  have hz : ¬ cl c = 0 := by simpa using hc
  have HF := hidq (fd_minus (cl a) (cl b) (cl c) hz (by omega))
  have hz0 : 0 < (cl c).natAbs := by omega
  go_enter Try.func63, Try.ntmps63
  go_wp2_with (go_at_call 62; refine (refclamp_any _ _).mono ?_; rintro e w' ⟨rfl, hw'⟩; subst w')
  refine (of_any _ _).mono ?_
  rintro e w1 ⟨ao1, cap1, r1, rfl, hd1, hc1, hv1, hb1⟩
  rw [cl_cl] at hv1
  have k1 : r1.length ≤ 7 := dig7 hc1 (by omega)
  have HD1 := hid hd1
  have HC1 := hid hc1
  have HV1 := hid hv1
  have HB1 := hid hb1
  clear hd1 hc1 hv1 hb1
  go_wp2_with fail
  refine (of_any _ _).mono ?_
  rintro e w2 ⟨ao2, cap2, r2, rfl, hd2, hc2, hv2, hb2⟩
  rw [cl_cl] at hv2
  have k2 : r2.length ≤ 7 := dig7 hc2 (by omega)
  have HD2 := hid hd2
  have HC2 := hid hc2
  have HV2 := hid hv2
  have HB2 : Hid (Below w.heap.size w w2) := HB1.out.trans (hb2.mono HB1.out.size)
  have HD1' := hid (HD1.out.below hb2)
  clear hd2 hc2 hv2 hb2 HD1
  go_wp2_with fail
  refine (times_any _ _ r1 _ _ r2 _ HD1'.out (by omega) HC1.out.1 HD2.out (by omega) HC2.out.1).mono ?_
  rintro e w3 ⟨ao3, cap3, r3, rfl, hd3, hc3, hv3, hb3⟩
  have k3 : r3.length ≤ 14 := by
    refine hc3.len 14 ?_
    rw [hv3, HV1.out, HV2.out]
    have h1 : (cl a).natAbs * (cl b).natAbs ≤ 1152921504606846976 * 1152921504606846976 := Nat.mul_le_mul (by omega) (by omega)
    have h2 : (1000 : Nat) ^ 14 = 1000000000000000000000000000000000000000000 := by decide
    omega
  have HD3 := hid hd3
  have HC3 := hid hc3
  have HV3 : Hid (vl r3 = (cl a).natAbs * (cl b).natAbs) := by show _ = _; rw [hv3, HV1.out, HV2.out]
  have HB3 : Hid (Below w.heap.size w w3) := HB2.out.trans (hb3.mono HB2.out.size)
  clear hd3 hc3 hv3 hb3
  go_wp2_with fail
  refine (of_any _ _).mono ?_
  rintro e w4 ⟨ao4, cap4, r4, rfl, hd4, hc4, hv4, hb4⟩
  rw [cl_cl] at hv4
  have k4 : r4.length ≤ 7 := dig7 hc4 (by omega)
  have HD4 := hid hd4
  have HC4 := hid hc4
  have HV4 := hid hv4
  have HB4 : Hid (Below w.heap.size w w4) := HB3.out.trans (hb4.mono HB3.out.size)
  have HD3' := hid (HD3.out.below hb4)
  clear hd4 hc4 hv4 hb4 HD3
  go_wp2_with fail
  refine (quotient_any _ _ r3 _ _ r4 _ HD3'.out (by omega) HC3.out.1 HD4.out (by omega) HC4.out.1 (by rw [HV4.out]; exact hz0)).mono ?_
  rintro e w5 ⟨rfl, hb5⟩
  have HB5 : Hid (Below w.heap.size w w5) := HB4.out.trans (hb5.mono HB4.out.size)
  rw [HV3.out, HV4.out]
  have HF2 : Box ((ex ((cl a).natAbs * (cl b).natAbs) (cl c).natAbs = true → R = -((qt ((cl a).natAbs * (cl b).natAbs) (cl c).natAbs : Nat) : Int)) ∧ (ex ((cl a).natAbs * (cl b).natAbs) (cl c).natAbs = false → R = cl (-((qt ((cl a).natAbs * (cl b).natAbs) (cl c).natAbs : Nat) : Int) - 1))) := ⟨res_minus hz0 HR.out HF.out.1 HF.out.2⟩
  have hq := qt_le ((cl a).natAbs * (cl b).natAbs) (cl c).natAbs
  clear hb5 k1 k2 k3 k4 HF
  generalize qt ((cl a).natAbs * (cl b).natAbs) (cl c).natAbs = q at *
  generalize ex ((cl a).natAbs * (cl b).natAbs) (cl c).natAbs = x at *
  cases x with
  | true =>
    have HF3 : Box (R = -(q : Int)) := ⟨HF2.out.1 rfl⟩
    by_cases h0 : q = 0
    · have k0 : ((q : Int) == 0) = true := by simpa using h0
      have HF4 : Box (R = (q : Int)) := ⟨by rw [HF3.out, h0]; rfl⟩
      clear h0
      go_wp2_with fail
      go_ret2
      exact ⟨ret_ib (by rw [HF4.out]), HB5.out⟩
    · have k0 : ((q : Int) == 0) = false := by simpa using h0
      clear h0
      go_wp2_with fail
      go_ret2
      exact ⟨ret_ib (by rw [HF3.out]), HB5.out⟩
  | false =>
    have HF3 : Box (R = cl (-(q : Int) - 1)) := ⟨HF2.out.2 rfl⟩
    by_cases h0 : q = 0
    · have k0 : ((q : Int) == 0) = true := by simpa using h0
      clear h0
      go_wp2_with (go_at_call 62; refine (refclamp_any _ _).mono ?_; rintro e w' ⟨rfl, hw'⟩; subst w')
      go_ret2
      exact ⟨ret_ib (by rw [HF3.out]), HB5.out⟩
    · have k0 : ((q : Int) == 0) = false := by simpa using h0
      clear h0
      go_wp2_with (go_at_call 62; refine (refclamp_any _ _).mono ?_; rintro e w' ⟨rfl, hw'⟩; subst w')
      go_ret2
      exact ⟨ret_ib (by rw [HF3.out]), HB5.out⟩

set_option maxHeartbeats 1000000 in
theorem refmuldiv_110 (a b c R : Int) (w : World) (hc : (cl c == 0) = false) (s1 : cl a < 0) (s2 : cl b < 0) (s3 : 0 ≤ cl c) (HR : Box (R = cl ((cl a * cl b).fdiv (cl c)))) :
    Calls Try.prog 63 #[.int .i64 a, .int .i64 b, .int .i64 c] w fun e w' => e = .returned (.tuple #[.int .i64 R, .bool true]) ∧ Below w.heap.size w w' := by
  have ha := cl_le a
  have hb := cl_le b
  have hcl := cl_le c
  have hz : ¬ cl c = 0 := by simpa using hc
  have HF := hidq (fd_plus (cl a) (cl b) (cl c) hz (by omega))
  have hz0 : 0 < (cl c).natAbs := by omega
  go_enter Try.func63, Try.ntmps63
  go_wp2_with (go_at_call 62; refine (refclamp_any _ _).mono ?_; rintro e w' ⟨rfl, hw'⟩; subst w')
  refine (of_any _ _).mono ?_
  rintro e w1 ⟨ao1, cap1, r1, rfl, hd1, hc1, hv1, hb1⟩
  rw [cl_cl] at hv1
  have k1 : r1.length ≤ 7 := dig7 hc1 (by omega)
  have HD1 := hid hd1
  have HC1 := hid hc1
  have HV1 := hid hv1
  have HB1 := hid hb1
  clear hd1 hc1 hv1 hb1
  go_wp2_with fail
  refine (of_any _ _).mono ?_
  rintro e w2 ⟨ao2, cap2, r2, rfl, hd2, hc2, hv2, hb2⟩
  rw [cl_cl] at hv2
  have k2 : r2.length ≤ 7 := dig7 hc2 (by omega)
  have HD2 := hid hd2
  have HC2 := hid hc2
  have HV2 := hid hv2
  have HB2 : Hid (Below w.heap.size w w2) := HB1.out.trans (hb2.mono HB1.out.size)
  have HD1' := hid (HD1.out.below hb2)
  clear hd2 hc2 hv2 hb2 HD1
  go_wp2_with fail
  refine (times_any _ _ r1 _ _ r2 _ HD1'.out (by omega) HC1.out.1 HD2.out (by omega) HC2.out.1).mono ?_
  rintro e w3 ⟨ao3, cap3, r3, rfl, hd3, hc3, hv3, hb3⟩
  have k3 : r3.length ≤ 14 := by
    refine hc3.len 14 ?_
    rw [hv3, HV1.out, HV2.out]
    have h1 : (cl a).natAbs * (cl b).natAbs ≤ 1152921504606846976 * 1152921504606846976 := Nat.mul_le_mul (by omega) (by omega)
    have h2 : (1000 : Nat) ^ 14 = 1000000000000000000000000000000000000000000 := by decide
    omega
  have HD3 := hid hd3
  have HC3 := hid hc3
  have HV3 : Hid (vl r3 = (cl a).natAbs * (cl b).natAbs) := by show _ = _; rw [hv3, HV1.out, HV2.out]
  have HB3 : Hid (Below w.heap.size w w3) := HB2.out.trans (hb3.mono HB2.out.size)
  clear hd3 hc3 hv3 hb3
  go_wp2_with fail
  refine (of_any _ _).mono ?_
  rintro e w4 ⟨ao4, cap4, r4, rfl, hd4, hc4, hv4, hb4⟩
  rw [cl_cl] at hv4
  have k4 : r4.length ≤ 7 := dig7 hc4 (by omega)
  have HD4 := hid hd4
  have HC4 := hid hc4
  have HV4 := hid hv4
  have HB4 : Hid (Below w.heap.size w w4) := HB3.out.trans (hb4.mono HB3.out.size)
  have HD3' := hid (HD3.out.below hb4)
  clear hd4 hc4 hv4 hb4 HD3
  go_wp2_with fail
  refine (quotient_any _ _ r3 _ _ r4 _ HD3'.out (by omega) HC3.out.1 HD4.out (by omega) HC4.out.1 (by rw [HV4.out]; exact hz0)).mono ?_
  rintro e w5 ⟨rfl, hb5⟩
  have HB5 : Hid (Below w.heap.size w w5) := HB4.out.trans (hb5.mono HB4.out.size)
  rw [HV3.out, HV4.out]
  have HF2 : Box (R = ((qt ((cl a).natAbs * (cl b).natAbs) (cl c).natAbs : Nat) : Int)) := ⟨by rw [HR.out, HF.out, res_plus]⟩
  have hq := qt_le ((cl a).natAbs * (cl b).natAbs) (cl c).natAbs
  clear hb5 k1 k2 k3 k4 HF
  generalize qt ((cl a).natAbs * (cl b).natAbs) (cl c).natAbs = q at *
  generalize ex ((cl a).natAbs * (cl b).natAbs) (cl c).natAbs = x at *
  go_wp2_with fail
  go_ret2
  exact ⟨ret_ib (by rw [HF2.out]), HB5.out⟩

set_option maxHeartbeats 1000000 in
theorem refmuldiv_101 (a b c R : Int) (w : World) (hc : (cl c == 0) = false) (s1 : cl a < 0) (s2 : 0 ≤ cl b) (s3 : cl c < 0) (HR : Box (R = cl ((cl a * cl b).fdiv (cl c)))) :
    Calls Try.prog 63 #[.int .i64 a, .int .i64 b, .int .i64 c] w fun e w' => e = .returned (.tuple #[.int .i64 R, .bool true]) ∧ Below w.heap.size w w' := by
  have ha := cl_le a
  have hb := cl_le b
  have hcl := cl_le c
  have hz : ¬ cl c = 0 := by simpa using hc
  have HF := hidq (fd_plus (cl a) (cl b) (cl c) hz (by omega))
  have hz0 : 0 < (cl c).natAbs := by omega
  go_enter Try.func63, Try.ntmps63
  go_wp2_with (go_at_call 62; refine (refclamp_any _ _).mono ?_; rintro e w' ⟨rfl, hw'⟩; subst w')
  refine (of_any _ _).mono ?_
  rintro e w1 ⟨ao1, cap1, r1, rfl, hd1, hc1, hv1, hb1⟩
  rw [cl_cl] at hv1
  have k1 : r1.length ≤ 7 := dig7 hc1 (by omega)
  have HD1 := hid hd1
  have HC1 := hid hc1
  have HV1 := hid hv1
  have HB1 := hid hb1
  clear hd1 hc1 hv1 hb1
  go_wp2_with fail
  refine (of_any _ _).mono ?_
  rintro e w2 ⟨ao2, cap2, r2, rfl, hd2, hc2, hv2, hb2⟩
  rw [cl_cl] at hv2
  have k2 : r2.length ≤ 7 := dig7 hc2 (by omega)
  have HD2 := hid hd2
  have HC2 := hid hc2
  have HV2 := hid hv2
  have HB2 : Hid (Below w.heap.size w w2) := HB1.out.trans (hb2.mono HB1.out.size)
  have HD1' := hid (HD1.out.below hb2)
  clear hd2 hc2 hv2 hb2 HD1
  go_wp2_with fail
  refine (times_any _ _ r1 _ _ r2 _ HD1'.out (by omega) HC1.out.1 HD2.out (by omega) HC2.out.1).mono ?_
  rintro e w3 ⟨ao3, cap3, r3, rfl, hd3, hc3, hv3, hb3⟩
  have k3 : r3.length ≤ 14 := by
    refine hc3.len 14 ?_
    rw [hv3, HV1.out, HV2.out]
    have h1 : (cl a).natAbs * (cl b).natAbs ≤ 1152921504606846976 * 1152921504606846976 := Nat.mul_le_mul (by omega) (by omega)
    have h2 : (1000 : Nat) ^ 14 = 1000000000000000000000000000000000000000000 := by decide
    omega
  have HD3 := hid hd3
  have HC3 := hid hc3
  have HV3 : Hid (vl r3 = (cl a).natAbs * (cl b).natAbs) := by show _ = _; rw [hv3, HV1.out, HV2.out]
  have HB3 : Hid (Below w.heap.size w w3) := HB2.out.trans (hb3.mono HB2.out.size)
  clear hd3 hc3 hv3 hb3
  go_wp2_with fail
  refine (of_any _ _).mono ?_
  rintro e w4 ⟨ao4, cap4, r4, rfl, hd4, hc4, hv4, hb4⟩
  rw [cl_cl] at hv4
  have k4 : r4.length ≤ 7 := dig7 hc4 (by omega)
  have HD4 := hid hd4
  have HC4 := hid hc4
  have HV4 := hid hv4
  have HB4 : Hid (Below w.heap.size w w4) := HB3.out.trans (hb4.mono HB3.out.size)
  have HD3' := hid (HD3.out.below hb4)
  clear hd4 hc4 hv4 hb4 HD3
  go_wp2_with fail
  refine (quotient_any _ _ r3 _ _ r4 _ HD3'.out (by omega) HC3.out.1 HD4.out (by omega) HC4.out.1 (by rw [HV4.out]; exact hz0)).mono ?_
  rintro e w5 ⟨rfl, hb5⟩
  have HB5 : Hid (Below w.heap.size w w5) := HB4.out.trans (hb5.mono HB4.out.size)
  rw [HV3.out, HV4.out]
  have HF2 : Box (R = ((qt ((cl a).natAbs * (cl b).natAbs) (cl c).natAbs : Nat) : Int)) := ⟨by rw [HR.out, HF.out, res_plus]⟩
  have hq := qt_le ((cl a).natAbs * (cl b).natAbs) (cl c).natAbs
  clear hb5 k1 k2 k3 k4 HF
  generalize qt ((cl a).natAbs * (cl b).natAbs) (cl c).natAbs = q at *
  generalize ex ((cl a).natAbs * (cl b).natAbs) (cl c).natAbs = x at *
  go_wp2_with fail
  go_ret2
  exact ⟨ret_ib (by rw [HF2.out]), HB5.out⟩

set_option maxHeartbeats 1000000 in
theorem refmuldiv_100 (a b c R : Int) (w : World) (hc : (cl c == 0) = false) (s1 : cl a < 0) (s2 : 0 ≤ cl b) (s3 : 0 ≤ cl c) (HR : Box (R = cl ((cl a * cl b).fdiv (cl c)))) :
    Calls Try.prog 63 #[.int .i64 a, .int .i64 b, .int .i64 c] w fun e w' => e = .returned (.tuple #[.int .i64 R, .bool true]) ∧ Below w.heap.size w w' := by
  have ha := cl_le a
  have hb := cl_le b
  have hcl := cl_le c
  have hz : ¬ cl c = 0 := by simpa using hc
  have HF := hidq (fd_minus (cl a) (cl b) (cl c) hz (by omega))
  have hz0 : 0 < (cl c).natAbs := by omega
  go_enter Try.func63, Try.ntmps63
  go_wp2_with (go_at_call 62; refine (refclamp_any _ _).mono ?_; rintro e w' ⟨rfl, hw'⟩; subst w')
  refine (of_any _ _).mono ?_
  rintro e w1 ⟨ao1, cap1, r1, rfl, hd1, hc1, hv1, hb1⟩
  rw [cl_cl] at hv1
  have k1 : r1.length ≤ 7 := dig7 hc1 (by omega)
  have HD1 := hid hd1
  have HC1 := hid hc1
  have HV1 := hid hv1
  have HB1 := hid hb1
  clear hd1 hc1 hv1 hb1
  go_wp2_with fail
  refine (of_any _ _).mono ?_
  rintro e w2 ⟨ao2, cap2, r2, rfl, hd2, hc2, hv2, hb2⟩
  rw [cl_cl] at hv2
  have k2 : r2.length ≤ 7 := dig7 hc2 (by omega)
  have HD2 := hid hd2
  have HC2 := hid hc2
  have HV2 := hid hv2
  have HB2 : Hid (Below w.heap.size w w2) := HB1.out.trans (hb2.mono HB1.out.size)
  have HD1' := hid (HD1.out.below hb2)
  clear hd2 hc2 hv2 hb2 HD1
  go_wp2_with fail
  refine (times_any _ _ r1 _ _ r2 _ HD1'.out (by omega) HC1.out.1 HD2.out (by omega) HC2.out.1).mono ?_
  rintro e w3 ⟨ao3, cap3, r3, rfl, hd3, hc3, hv3, hb3⟩
  have k3 : r3.length ≤ 14 := by
    refine hc3.len 14 ?_
    rw [hv3, HV1.out, HV2.out]
    have h1 : (cl a).natAbs * (cl b).natAbs ≤ 1152921504606846976 * 1152921504606846976 := Nat.mul_le_mul (by omega) (by omega)
    have h2 : (1000 : Nat) ^ 14 = 1000000000000000000000000000000000000000000 := by decide
    omega
  have HD3 := hid hd3
  have HC3 := hid hc3
  have HV3 : Hid (vl r3 = (cl a).natAbs * (cl b).natAbs) := by show _ = _; rw [hv3, HV1.out, HV2.out]
  have HB3 : Hid (Below w.heap.size w w3) := HB2.out.trans (hb3.mono HB2.out.size)
  clear hd3 hc3 hv3 hb3
  go_wp2_with fail
  refine (of_any _ _).mono ?_
  rintro e w4 ⟨ao4, cap4, r4, rfl, hd4, hc4, hv4, hb4⟩
  rw [cl_cl] at hv4
  have k4 : r4.length ≤ 7 := dig7 hc4 (by omega)
  have HD4 := hid hd4
  have HC4 := hid hc4
  have HV4 := hid hv4
  have HB4 : Hid (Below w.heap.size w w4) := HB3.out.trans (hb4.mono HB3.out.size)
  have HD3' := hid (HD3.out.below hb4)
  clear hd4 hc4 hv4 hb4 HD3
  go_wp2_with fail
  refine (quotient_any _ _ r3 _ _ r4 _ HD3'.out (by omega) HC3.out.1 HD4.out (by omega) HC4.out.1 (by rw [HV4.out]; exact hz0)).mono ?_
  rintro e w5 ⟨rfl, hb5⟩
  have HB5 : Hid (Below w.heap.size w w5) := HB4.out.trans (hb5.mono HB4.out.size)
  rw [HV3.out, HV4.out]
  have HF2 : Box ((ex ((cl a).natAbs * (cl b).natAbs) (cl c).natAbs = true → R = -((qt ((cl a).natAbs * (cl b).natAbs) (cl c).natAbs : Nat) : Int)) ∧ (ex ((cl a).natAbs * (cl b).natAbs) (cl c).natAbs = false → R = cl (-((qt ((cl a).natAbs * (cl b).natAbs) (cl c).natAbs : Nat) : Int) - 1))) := ⟨res_minus hz0 HR.out HF.out.1 HF.out.2⟩
  have hq := qt_le ((cl a).natAbs * (cl b).natAbs) (cl c).natAbs
  clear hb5 k1 k2 k3 k4 HF
  generalize qt ((cl a).natAbs * (cl b).natAbs) (cl c).natAbs = q at *
  generalize ex ((cl a).natAbs * (cl b).natAbs) (cl c).natAbs = x at *
  cases x with
  | true =>
    have HF3 : Box (R = -(q : Int)) := ⟨HF2.out.1 rfl⟩
    by_cases h0 : q = 0
    · have k0 : ((q : Int) == 0) = true := by simpa using h0
      have HF4 : Box (R = (q : Int)) := ⟨by rw [HF3.out, h0]; rfl⟩
      clear h0
      go_wp2_with fail
      go_ret2
      exact ⟨ret_ib (by rw [HF4.out]), HB5.out⟩
    · have k0 : ((q : Int) == 0) = false := by simpa using h0
      clear h0
      go_wp2_with fail
      go_ret2
      exact ⟨ret_ib (by rw [HF3.out]), HB5.out⟩
  | false =>
    have HF3 : Box (R = cl (-(q : Int) - 1)) := ⟨HF2.out.2 rfl⟩
    by_cases h0 : q = 0
    · have k0 : ((q : Int) == 0) = true := by simpa using h0
      clear h0
      go_wp2_with (go_at_call 62; refine (refclamp_any _ _).mono ?_; rintro e w' ⟨rfl, hw'⟩; subst w')
      go_ret2
      exact ⟨ret_ib (by rw [HF3.out]), HB5.out⟩
    · have k0 : ((q : Int) == 0) = false := by simpa using h0
      clear h0
      go_wp2_with (go_at_call 62; refine (refclamp_any _ _).mono ?_; rintro e w' ⟨rfl, hw'⟩; subst w')
      go_ret2
      exact ⟨ret_ib (by rw [HF3.out]), HB5.out⟩

set_option maxHeartbeats 1000000 in
theorem refmuldiv_011 (a b c R : Int) (w : World) (hc : (cl c == 0) = false) (s1 : 0 ≤ cl a) (s2 : cl b < 0) (s3 : cl c < 0) (HR : Box (R = cl ((cl a * cl b).fdiv (cl c)))) :
    Calls Try.prog 63 #[.int .i64 a, .int .i64 b, .int .i64 c] w fun e w' => e = .returned (.tuple #[.int .i64 R, .bool true]) ∧ Below w.heap.size w w' := by
  have ha := cl_le a
  have hb := cl_le b
  have hcl := cl_le c
  have hz : ¬ cl c = 0 := by simpa using hc
  have HF := hidq (fd_plus (cl a) (cl b) (cl c) hz (by omega))
  have hz0 : 0 < (cl c).natAbs := by omega
  go_enter Try.func63, Try.ntmps63
  go_wp2_with (go_at_call 62; refine (refclamp_any _ _).mono ?_; rintro e w' ⟨rfl, hw'⟩; subst w')
  refine (of_any _ _).mono ?_
  rintro e w1 ⟨ao1, cap1, r1, rfl, hd1, hc1, hv1, hb1⟩
  rw [cl_cl] at hv1
  have k1 : r1.length ≤ 7 := dig7 hc1 (by omega)
  have HD1 := hid hd1
  have HC1 := hid hc1
  have HV1 := hid hv1
  have HB1 := hid hb1
  clear hd1 hc1 hv1 hb1
  go_wp2_with fail
  refine (of_any _ _).mono ?_
  rintro e w2 ⟨ao2, cap2, r2, rfl, hd2, hc2, hv2, hb2⟩
  rw [cl_cl] at hv2
  have k2 : r2.length ≤ 7 := dig7 hc2 (by omega)
  have HD2 := hid hd2
  have HC2 := hid hc2
  have HV2 := hid hv2
  have HB2 : Hid (Below w.heap.size w w2) := HB1.out.trans (hb2.mono HB1.out.size)
  have HD1' := hid (HD1.out.below hb2)
  clear hd2 hc2 hv2 hb2 HD1
  go_wp2_with fail
  refine (times_any _ _ r1 _ _ r2 _ HD1'.out (by omega) HC1.out.1 HD2.out (by omega) HC2.out.1).mono ?_
  rintro e w3 ⟨ao3, cap3, r3, rfl, hd3, hc3, hv3, hb3⟩
  have k3 : r3.length ≤ 14 := by
    refine hc3.len 14 ?_
    rw [hv3, HV1.out, HV2.out]
    have h1 : (cl a).natAbs * (cl b).natAbs ≤ 1152921504606846976 * 1152921504606846976 := Nat.mul_le_mul (by omega) (by omega)
    have h2 : (1000 : Nat) ^ 14 = 1000000000000000000000000000000000000000000 := by decide
    omega
  have HD3 := hid hd3
  have HC3 := hid hc3
  have HV3 : Hid (vl r3 = (cl a).natAbs * (cl b).natAbs) := by show _ = _; rw [hv3, HV1.out, HV2.out]
  have HB3 : Hid (Below w.heap.size w w3) := HB2.out.trans (hb3.mono HB2.out.size)
  clear hd3 hc3 hv3 hb3
  go_wp2_with fail
  refine (of_any _ _).mono ?_
  rintro e w4 ⟨ao4, cap4, r4, rfl, hd4, hc4, hv4, hb4⟩
  rw [cl_cl] at hv4
  have k4 : r4.length ≤ 7 := dig7 hc4 (by omega)
  have HD4 := hid hd4
  have HC4 := hid hc4
  have HV4 := hid hv4
  have HB4 : Hid (Below w.heap.size w w4) := HB3.out.trans (hb4.mono HB3.out.size)
  have HD3' := hid (HD3.out.below hb4)
  clear hd4 hc4 hv4 hb4 HD3
  go_wp2_with fail
  refine (quotient_any _ _ r3 _ _ r4 _ HD3'.out (by omega) HC3.out.1 HD4.out (by omega) HC4.out.1 (by rw [HV4.out]; exact hz0)).mono ?_
  rintro e w5 ⟨rfl, hb5⟩
  have HB5 : Hid (Below w.heap.size w w5) := HB4.out.trans (hb5.mono HB4.out.size)
  rw [HV3.out, HV4.out]
  have HF2 : Box (R = ((qt ((cl a).natAbs * (cl b).natAbs) (cl c).natAbs : Nat) : Int)) := ⟨by rw [HR.out, HF.out, res_plus]⟩
  have hq := qt_le ((cl a).natAbs * (cl b).natAbs) (cl c).natAbs
  clear hb5 k1 k2 k3 k4 HF
  generalize qt ((cl a).natAbs * (cl b).natAbs) (cl c).natAbs = q at *
  generalize ex ((cl a).natAbs * (cl b).natAbs) (cl c).natAbs = x at *
  go_wp2_with fail
  go_ret2
  exact ⟨ret_ib (by rw [HF2.out]), HB5.out⟩

set_option maxHeartbeats 1000000 in
theorem refmuldiv_010 (a b c R : Int) (w : World) (hc : (cl c == 0) = false) (s1 : 0 ≤ cl a) (s2 : cl b < 0) (s3 : 0 ≤ cl c) (HR : Box (R = cl ((cl a * cl b).fdiv (cl c)))) :
    Calls Try.prog 63 #[.int .i64 a, .int .i64 b, .int .i64 c] w fun e w' => e = .returned (.tuple #[.int .i64 R, .bool true]) ∧ Below w.heap.size w w' := by
  have ha := cl_le a
  have hb := cl_le b
  have hcl := cl_le c
  have hz : ¬ cl c = 0 := by simpa using hc
  have HF := hidq (fd_minus (cl a) (cl b) (cl c) hz (by omega))
  have hz0 : 0 < (cl c).natAbs := by omega
  go_enter Try.func63, Try.ntmps63
  go_wp2_with (go_at_call 62; refine (refclamp_any _ _).mono ?_; rintro e w' ⟨rfl, hw'⟩; subst w')
  refine (of_any _ _).mono ?_
  rintro e w1 ⟨ao1, cap1, r1, rfl, hd1, hc1, hv1, hb1⟩
  rw [cl_cl] at hv1
  have k1 : r1.length ≤ 7 := dig7 hc1 (by omega)
  have HD1 := hid hd1
  have HC1 := hid hc1
  have HV1 := hid hv1
  have HB1 := hid hb1
  clear hd1 hc1 hv1 hb1
  go_wp2_with fail
  refine (of_any _ _).mono ?_
  rintro e w2 ⟨ao2, cap2, r2, rfl, hd2, hc2, hv2, hb2⟩
  rw [cl_cl] at hv2
  have k2 : r2.length ≤ 7 := dig7 hc2 (by omega)
  have HD2 := hid hd2
  have HC2 := hid hc2
  have HV2 := hid hv2
  have HB2 : Hid (Below w.heap.size w w2) := HB1.out.trans (hb2.mono HB1.out.size)
  have HD1' := hid (HD1.out.below hb2)
  clear hd2 hc2 hv2 hb2 HD1
  go_wp2_with fail
  refine (times_any _ _ r1 _ _ r2 _ HD1'.out (by omega) HC1.out.1 HD2.out (by omega) HC2.out.1).mono ?_
  rintro e w3 ⟨ao3, cap3, r3, rfl, hd3, hc3, hv3, hb3⟩
  have k3 : r3.length ≤ 14 := by
    refine hc3.len 14 ?_
    rw [hv3, HV1.out, HV2.out]
    have h1 : (cl a).natAbs * (cl b).natAbs ≤ 1152921504606846976 * 1152921504606846976 := Nat.mul_le_mul (by omega) (by omega)
    have h2 : (1000 : Nat) ^ 14 = 1000000000000000000000000000000000000000000 := by decide
    omega
  have HD3 := hid hd3
  have HC3 := hid hc3
  have HV3 : Hid (vl r3 = (cl a).natAbs * (cl b).natAbs) := by show _ = _; rw [hv3, HV1.out, HV2.out]
  have HB3 : Hid (Below w.heap.size w w3) := HB2.out.trans (hb3.mono HB2.out.size)
  clear hd3 hc3 hv3 hb3
  go_wp2_with fail
  refine (of_any _ _).mono ?_
  rintro e w4 ⟨ao4, cap4, r4, rfl, hd4, hc4, hv4, hb4⟩
  rw [cl_cl] at hv4
  have k4 : r4.length ≤ 7 := dig7 hc4 (by omega)
  have HD4 := hid hd4
  have HC4 := hid hc4
  have HV4 := hid hv4
  have HB4 : Hid (Below w.heap.size w w4) := HB3.out.trans (hb4.mono HB3.out.size)
  have HD3' := hid (HD3.out.below hb4)
  clear hd4 hc4 hv4 hb4 HD3
  go_wp2_with fail
  refine (quotient_any _ _ r3 _ _ r4 _ HD3'.out (by omega) HC3.out.1 HD4.out (by omega) HC4.out.1 (by rw [HV4.out]; exact hz0)).mono ?_
  rintro e w5 ⟨rfl, hb5⟩
  have HB5 : Hid (Below w.heap.size w w5) := HB4.out.trans (hb5.mono HB4.out.size)
  rw [HV3.out, HV4.out]
  have HF2 : Box ((ex ((cl a).natAbs * (cl b).natAbs) (cl c).natAbs = true → R = -((qt ((cl a).natAbs * (cl b).natAbs) (cl c).natAbs : Nat) : Int)) ∧ (ex ((cl a).natAbs * (cl b).natAbs) (cl c).natAbs = false → R = cl (-((qt ((cl a).natAbs * (cl b).natAbs) (cl c).natAbs : Nat) : Int) - 1))) := ⟨res_minus hz0 HR.out HF.out.1 HF.out.2⟩
  have hq := qt_le ((cl a).natAbs * (cl b).natAbs) (cl c).natAbs
  clear hb5 k1 k2 k3 k4 HF
  generalize qt ((cl a).natAbs * (cl b).natAbs) (cl c).natAbs = q at *
  generalize ex ((cl a).natAbs * (cl b).natAbs) (cl c).natAbs = x at *
  cases x with
  | true =>
    have HF3 : Box (R = -(q : Int)) := ⟨HF2.out.1 rfl⟩
    by_cases h0 : q = 0
    · have k0 : ((q : Int) == 0) = true := by simpa using h0
      have HF4 : Box (R = (q : Int)) := ⟨by rw [HF3.out, h0]; rfl⟩
      clear h0
      go_wp2_with fail
      go_ret2
      exact ⟨ret_ib (by rw [HF4.out]), HB5.out⟩
    · have k0 : ((q : Int) == 0) = false := by simpa using h0
      clear h0
      go_wp2_with fail
      go_ret2
      exact ⟨ret_ib (by rw [HF3.out]), HB5.out⟩
  | false =>
    have HF3 : Box (R = cl (-(q : Int) - 1)) := ⟨HF2.out.2 rfl⟩
    by_cases h0 : q = 0
    · have k0 : ((q : Int) == 0) = true := by simpa using h0
      clear h0
      go_wp2_with (go_at_call 62; refine (refclamp_any _ _).mono ?_; rintro e w' ⟨rfl, hw'⟩; subst w')
      go_ret2
      exact ⟨ret_ib (by rw [HF3.out]), HB5.out⟩
    · have k0 : ((q : Int) == 0) = false := by simpa using h0
      clear h0
      go_wp2_with (go_at_call 62; refine (refclamp_any _ _).mono ?_; rintro e w' ⟨rfl, hw'⟩; subst w')
      go_ret2
      exact ⟨ret_ib (by rw [HF3.out]), HB5.out⟩

set_option maxHeartbeats 1000000 in
theorem refmuldiv_001 (a b c R : Int) (w : World) (hc : (cl c == 0) = false) (s1 : 0 ≤ cl a) (s2 : 0 ≤ cl b) (s3 : cl c < 0) (HR : Box (R = cl ((cl a * cl b).fdiv (cl c)))) :
    Calls Try.prog 63 #[.int .i64 a, .int .i64 b, .int .i64 c] w fun e w' => e = .returned (.tuple #[.int .i64 R, .bool true]) ∧ Below w.heap.size w w' := by
  have ha := cl_le a
  have hb := cl_le b
  have hcl := cl_le c
  have hz : ¬ cl c = 0 := by simpa using hc
  have HF := hidq (fd_minus (cl a) (cl b) (cl c) hz (by omega))
  have hz0 : 0 < (cl c).natAbs := by omega
  go_enter Try.func63, Try.ntmps63
  go_wp2_with (go_at_call 62; refine (refclamp_any _ _).mono ?_; rintro e w' ⟨rfl, hw'⟩; subst w')
  refine (of_any _ _).mono ?_
  rintro e w1 ⟨ao1, cap1, r1, rfl, hd1, hc1, hv1, hb1⟩
  rw [cl_cl] at hv1
  have k1 : r1.length ≤ 7 := dig7 hc1 (by omega)
  have HD1 := hid hd1
  have HC1 := hid hc1
  have HV1 := hid hv1
  have HB1 := hid hb1
  clear hd1 hc1 hv1 hb1
  go_wp2_with fail
  refine (of_any _ _).mono ?_
  rintro e w2 ⟨ao2, cap2, r2, rfl, hd2, hc2, hv2, hb2⟩
  rw [cl_cl] at hv2
  have k2 : r2.length ≤ 7 := dig7 hc2 (by omega)
  have HD2 := hid hd2
  have HC2 := hid hc2
  have HV2 := hid hv2
  have HB2 : Hid (Below w.heap.size w w2) := HB1.out.trans (hb2.mono HB1.out.size)
  have HD1' := hid (HD1.out.below hb2)
  clear hd2 hc2 hv2 hb2 HD1
  go_wp2_with fail
  refine (times_any _ _ r1 _ _ r2 _ HD1'.out (by omega) HC1.out.1 HD2.out (by omega) HC2.out.1).mono ?_
  rintro e w3 ⟨ao3, cap3, r3, rfl, hd3, hc3, hv3, hb3⟩
  have k3 : r3.length ≤ 14 := by
    refine hc3.len 14 ?_
    rw [hv3, HV1.out, HV2.out]
    have h1 : (cl a).natAbs * (cl b).natAbs ≤ 1152921504606846976 * 1152921504606846976 := Nat.mul_le_mul (by omega) (by omega)
    have h2 : (1000 : Nat) ^ 14 = 1000000000000000000000000000000000000000000 := by decide
    omega
  have HD3 := hid hd3
  have HC3 := hid hc3
  have HV3 : Hid (vl r3 = (cl a).natAbs * (cl b).natAbs) := by show _ = _; rw [hv3, HV1.out, HV2.out]
  have HB3 : Hid (Below w.heap.size w w3) := HB2.out.trans (hb3.mono HB2.out.size)
  clear hd3 hc3 hv3 hb3
  go_wp2_with fail
  refine (of_any _ _).mono ?_
  rintro e w4 ⟨ao4, cap4, r4, rfl, hd4, hc4, hv4, hb4⟩
  rw [cl_cl] at hv4
  have k4 : r4.length ≤ 7 := dig7 hc4 (by omega)
  have HD4 := hid hd4
  have HC4 := hid hc4
  have HV4 := hid hv4
  have HB4 : Hid (Below w.heap.size w w4) := HB3.out.trans (hb4.mono HB3.out.size)
  have HD3' := hid (HD3.out.below hb4)
  clear hd4 hc4 hv4 hb4 HD3
  go_wp2_with fail
  refine (quotient_any _ _ r3 _ _ r4 _ HD3'.out (by omega) HC3.out.1 HD4.out (by omega) HC4.out.1 (by rw [HV4.out]; exact hz0)).mono ?_
  rintro e w5 ⟨rfl, hb5⟩
  have HB5 : Hid (Below w.heap.size w w5) := HB4.out.trans (hb5.mono HB4.out.size)
  rw [HV3.out, HV4.out]
  have HF2 : Box ((ex ((cl a).natAbs * (cl b).natAbs) (cl c).natAbs = true → R = -((qt ((cl a).natAbs * (cl b).natAbs) (cl c).natAbs : Nat) : Int)) ∧ (ex ((cl a).natAbs * (cl b).natAbs) (cl c).natAbs = false → R = cl (-((qt ((cl a).natAbs * (cl b).natAbs) (cl c).natAbs : Nat) : Int) - 1))) := ⟨res_minus hz0 HR.out HF.out.1 HF.out.2⟩
  have hq := qt_le ((cl a).natAbs * (cl b).natAbs) (cl c).natAbs
  clear hb5 k1 k2 k3 k4 HF
  generalize qt ((cl a).natAbs * (cl b).natAbs) (cl c).natAbs = q at *
  generalize ex ((cl a).natAbs * (cl b).natAbs) (cl c).natAbs = x at *
  cases x with
  | true =>
    have HF3 : Box (R = -(q : Int)) := ⟨HF2.out.1 rfl⟩
    by_cases h0 : q = 0
    · have k0 : ((q : Int) == 0) = true := by simpa using h0
      have HF4 : Box (R = (q : Int)) := ⟨by rw [HF3.out, h0]; rfl⟩
      clear h0
      go_wp2_with fail
      go_ret2
      exact ⟨ret_ib (by rw [HF4.out]), HB5.out⟩
    · have k0 : ((q : Int) == 0) = false := by simpa using h0
      clear h0
      go_wp2_with fail
      go_ret2
      exact ⟨ret_ib (by rw [HF3.out]), HB5.out⟩
  | false =>
    have HF3 : Box (R = cl (-(q : Int) - 1)) := ⟨HF2.out.2 rfl⟩
    by_cases h0 : q = 0
    · have k0 : ((q : Int) == 0) = true := by simpa using h0
      clear h0
      go_wp2_with (go_at_call 62; refine (refclamp_any _ _).mono ?_; rintro e w' ⟨rfl, hw'⟩; subst w')
      go_ret2
      exact ⟨ret_ib (by rw [HF3.out]), HB5.out⟩
    · have k0 : ((q : Int) == 0) = false := by simpa using h0
      clear h0
      go_wp2_with (go_at_call 62; refine (refclamp_any _ _).mono ?_; rintro e w' ⟨rfl, hw'⟩; subst w')
      go_ret2
      exact ⟨ret_ib (by rw [HF3.out]), HB5.out⟩

set_option maxHeartbeats 1000000 in
theorem refmuldiv_000 (a b c R : Int) (w : World) (hc : (cl c == 0) = false) (s1 : 0 ≤ cl a) (s2 : 0 ≤ cl b) (s3 : 0 ≤ cl c) (HR : Box (R = cl ((cl a * cl b).fdiv (cl c)))) :
    Calls Try.prog 63 #[.int .i64 a, .int .i64 b, .int .i64 c] w fun e w' => e = .returned (.tuple #[.int .i64 R, .bool true]) ∧ Below w.heap.size w w' := by
  have ha := cl_le a
  have hb := cl_le b
  have hcl := cl_le c
  have hz : ¬ cl c = 0 := by simpa using hc
  have HF := hidq (fd_plus (cl a) (cl b) (cl c) hz (by omega))
  have hz0 : 0 < (cl c).natAbs := by omega
  go_enter Try.func63, Try.ntmps63
  go_wp2_with (go_at_call 62; refine (refclamp_any _ _).mono ?_; rintro e w' ⟨rfl, hw'⟩; subst w')
  refine (of_any _ _).mono ?_
  rintro e w1 ⟨ao1, cap1, r1, rfl, hd1, hc1, hv1, hb1⟩
  rw [cl_cl] at hv1
  have k1 : r1.length ≤ 7 := dig7 hc1 (by omega)
  have HD1 := hid hd1
  have HC1 := hid hc1
  have HV1 := hid hv1
  have HB1 := hid hb1
  clear hd1 hc1 hv1 hb1
  go_wp2_with fail
  refine (of_any _ _).mono ?_
  rintro e w2 ⟨ao2, cap2, r2, rfl, hd2, hc2, hv2, hb2⟩
  rw [cl_cl] at hv2
  have k2 : r2.length ≤ 7 := dig7 hc2 (by omega)
  have HD2 := hid hd2
  have HC2 := hid hc2
  have HV2 := hid hv2
  have HB2 : Hid (Below w.heap.size w w2) := HB1.out.trans (hb2.mono HB1.out.size)
  have HD1' := hid (HD1.out.below hb2)
  clear hd2 hc2 hv2 hb2 HD1
  go_wp2_with fail
  refine (times_any _ _ r1 _ _ r2 _ HD1'.out (by omega) HC1.out.1 HD2.out (by omega) HC2.out.1).mono ?_
  rintro e w3 ⟨ao3, cap3, r3, rfl, hd3, hc3, hv3, hb3⟩
  have k3 : r3.length ≤ 14 := by
    refine hc3.len 14 ?_
    rw [hv3, HV1.out, HV2.out]
    have h1 : (cl a).natAbs * (cl b).natAbs ≤ 1152921504606846976 * 1152921504606846976 := Nat.mul_le_mul (by omega) (by omega)
    have h2 : (1000 : Nat) ^ 14 = 1000000000000000000000000000000000000000000 := by decide
    omega
  have HD3 := hid hd3
  have HC3 := hid hc3
  have HV3 : Hid (vl r3 = (cl a).natAbs * (cl b).natAbs) := by show _ = _; rw [hv3, HV1.out, HV2.out]
  have HB3 : Hid (Below w.heap.size w w3) := HB2.out.trans (hb3.mono HB2.out.size)
  clear hd3 hc3 hv3 hb3
  go_wp2_with fail
  refine (of_any _ _).mono ?_
  rintro e w4 ⟨ao4, cap4, r4, rfl, hd4, hc4, hv4, hb4⟩
  rw [cl_cl] at hv4
  have k4 : r4.length ≤ 7 := dig7 hc4 (by omega)
  have HD4 := hid hd4
  have HC4 := hid hc4
  have HV4 := hid hv4
  have HB4 : Hid (Below w.heap.size w w4) := HB3.out.trans (hb4.mono HB3.out.size)
  have HD3' := hid (HD3.out.below hb4)
  clear hd4 hc4 hv4 hb4 HD3
  go_wp2_with fail
  refine (quotient_any _ _ r3 _ _ r4 _ HD3'.out (by omega) HC3.out.1 HD4.out (by omega) HC4.out.1 (by rw [HV4.out]; exact hz0)).mono ?_
  rintro e w5 ⟨rfl, hb5⟩
  have HB5 : Hid (Below w.heap.size w w5) := HB4.out.trans (hb5.mono HB4.out.size)
  rw [HV3.out, HV4.out]
  have HF2 : Box (R = ((qt ((cl a).natAbs * (cl b).natAbs) (cl c).natAbs : Nat) : Int)) := ⟨by rw [HR.out, HF.out, res_plus]⟩
  have hq := qt_le ((cl a).natAbs * (cl b).natAbs) (cl c).natAbs
  clear hb5 k1 k2 k3 k4 HF
  generalize qt ((cl a).natAbs * (cl b).natAbs) (cl c).natAbs = q at *
  generalize ex ((cl a).natAbs * (cl b).natAbs) (cl c).natAbs = x at *
  go_wp2_with fail
  go_ret2
  exact ⟨ret_ib (by rw [HF2.out]), HB5.out⟩

theorem refmuldiv_some (a b c : Int) (w : World) (hc : (cl c == 0) = false) :
    Calls Try.prog 63 #[.int .i64 a, .int .i64 b, .int .i64 c] w fun e w' => e = .returned (.tuple #[.int .i64 (cl ((cl a * cl b).fdiv (cl c))), .bool true]) ∧ Below w.heap.size w w' := by
  by_cases s1 : cl a < 0 <;> by_cases s2 : cl b < 0 <;> by_cases s3 : cl c < 0
  · exact refmuldiv_111 a b c _ w hc s1 s2 s3 ⟨rfl⟩
  · exact refmuldiv_110 a b c _ w hc s1 s2 (by omega) ⟨rfl⟩
  · exact refmuldiv_101 a b c _ w hc s1 (by omega) s3 ⟨rfl⟩
  · exact refmuldiv_100 a b c _ w hc s1 (by omega) (by omega) ⟨rfl⟩
  · exact refmuldiv_011 a b c _ w hc (by omega) s2 s3 ⟨rfl⟩
  · exact refmuldiv_010 a b c _ w hc (by omega) s2 (by omega) ⟨rfl⟩
  · exact refmuldiv_001 a b c _ w hc (by omega) (by omega) s3 ⟨rfl⟩
  · exact refmuldiv_000 a b c _ w hc (by omega) (by omega) (by omega) ⟨rfl⟩

theorem refmuldiv_any (a b c : Int) (w : World) :
    Calls Try.prog 63 #[.int .i64 a, .int .i64 b, .int .i64 c] w fun e w' => e = .returned (.tuple #[.int .i64 (mdv a b c), .bool (nz c)]) ∧ Below w.heap.size w w' := by
  by_cases h : c = 0
  · have e1 : mdv a b c = 0 := by simp [mdv, h]
    rw [e1, nz_f c h]
    exact refmuldiv_zero a b c w (by simpa using (cl_zero c).2 h)
  · have e1 : mdv a b c = cl ((cl a * cl b).fdiv (cl c)) := by simp [mdv, h]
    rw [e1, nz_t c h]
    exact refmuldiv_some a b c w (by simpa using fun x => h ((cl_zero c).1 x))

theorem mdv_dv (a b : Int) : mdv a 1 b = dv a b := by
  unfold mdv dv
  split
  · rfl
  · rename_i h
    have hb : cl b ≠ 0 := fun x => h ((cl_zero b).1 x)
    have h1 : cl 1 = 1 := by decide
    have ha := cl_le a
    have := fd_le (cl a) (cl b) 1152921504606846976 hb ha.1 ha.2
    rw [h1, Int.mul_one, cl_same _ this.1 this.2]

end Go.Proofs.Ytcdcpmcjlchfgaa.Sc
