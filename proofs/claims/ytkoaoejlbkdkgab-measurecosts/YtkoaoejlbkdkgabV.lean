/-
  What the document's Back and Mul answer: Back: the digits' number, at most Most; Mul: the product of the clamped numbers, clamped.
-/
import Derived.Test.YtkoaoejlbkdkgabU
namespace Go.Proofs.Ytkoaoejlbkdkgab
open Go.RowKit
set_option linter.unusedSimpArgs false
set_option linter.unusedVariables false

theorem vl_drop_le (l : List Nat) (k : Nat) : vl (l.drop k) ≤ vl l := by
  by_cases h : k ≤ l.length
  · have h1 := vl_split l k h
    have h2 : 1 * vl (l.drop k) ≤ 1000 ^ k * vl (l.drop k) := Nat.mul_le_mul_right _ (Nat.pow_pos (by omega))
    omega
  · rw [List.drop_of_length_le (by omega)]; simp [vl]

theorem vl_drop (l : List Nat) (k : Nat) (h : k < l.length) : vl (l.drop k) = vl (l.drop (k + 1)) * 1000 + l.getD k 0 := by
  rw [List.drop_eq_getElem_cons h, getD_at _ _ h]
  simp only [vl]
  omega

set_option maxRecDepth 100000 in
set_option maxHeartbeats 800000 in
theorem back_any (ao : Option Addr) (cap : Nat) (l : List Nat) (w : World) (hd : Dg w ao cap l) (hl : l.length ≤ 1000) (hs : ∀ d ∈ l, d < 1000) :
    Calls Try.prog 51 #[.slice ao l.length cap] w fun e w' => e = .returned (.int .i64 ((min (vl l) 1152921504606846976 : Nat) : Int)) ∧ Below w.heap.size w w' := by
  have HD := hid hd
  have HS := hid hs
  clear hd hs
  go_enter Try.func51, Try.ntmps51
  go_wp2_with fail
  refine (of_any _ _).mono ?_
  rintro e w1 ⟨ao1, cap1, r, rfl, hd1, hc1, hv1, hb1⟩
  have HE1 := hid hd1
  have HC1 := hid hc1
  have hv1 : vl r = 1152921504606846976 := by rw [hv1]; decide
  have hr : r.length ≤ 7 := hc1.len 7 (by rw [hv1]; decide)
  have HV1 := hid hv1
  have HB1 := hid hb1
  clear hd1 hc1 hv1 hb1
  go_wp2_with fail
  refine (compare_any _ _ l _ _ r _ (HD.out.below HB1.out) hl HS.out HE1.out (by omega) HC1.out.1).mono ?_
  rintro e w2 ⟨rfl, hb2⟩
  have HB : Hid (Below w.heap.size w w2) := HB1.out.trans (hb2.mono HB1.out.size)
  clear hb2
  rw [HV1.out]
  have hd2 := (HD.out.below HB.out).2
  by_cases hc : vl l < 1152921504606846976
  · rw [cp_lt hc]
    have HM : Hid (min (vl l) 1152921504606846976 = vl l) := Nat.min_eq_left (by omega)
    go_wp2_with fail
    have HD2 := hid hd2
    clear hd2
    go_loop [3, 4] (fun t i => ∃ k : Nat, k ≤ l.length ∧ i = .int .i64 ((k : Int) - 1) ∧ t = .int .i64 (vl (l.drop k) : Nat)) (fun _ i => (intOf i + 1).toNat)
    case atStart => exact ⟨l.length, Nat.le_refl _, rfl, by rw [List.drop_of_length_le (Nat.le_refl _)]; rfl⟩
    case round =>
      obtain ⟨k, hk, rfl, rfl⟩ := hrel
      by_cases h0 : k = 0
      · have hlt : ((k : Int) - 1) < 0 := by omega
        go_wp2_with fail
        go_ret
        refine ⟨ret_int ?_, HB.out⟩
        rw [HM.out]
      · rcases HD2.out with h | ⟨g1, o1, e1, q1, cc1⟩
        · exfalso; rw [h] at hk; simp at hk; omega
        subst e1
        have f1 := cc1 (k - 1) (by omega)
        have hv := vl_drop l (k - 1) (by omega)
        have hle := vl_drop_le l (k - 1)
        rw [show k - 1 + 1 = k by omega] at hv
        have HV := hid hv
        have hb : (vl (l.drop k)) * 1000 + l.getD (k - 1) 0 < 1152921504606846976 := by omega
        clear cc1 hv hle
        generalize l.getD (k - 1) 0 = d at *
        generalize vl (l.drop k) = t at *
        go_wp2_with fail
        go_round
        case rel => exact ⟨k - 1, by omega, by go_num, by rw [HV.out]; go_num⟩
        case measure => simp [intOf]; omega
  · have hge : 0 ≤ cp (vl l) 1152921504606846976 := by unfold cp; rw [if_neg hc]; split <;> omega
    have HM : Hid (min (vl l) 1152921504606846976 = 1152921504606846976) := Nat.min_eq_right (by omega)
    generalize cp (vl l) 1152921504606846976 = c at *
    go_wp2_with fail
    go_ret
    exact ⟨ret_int (by rw [HM.out]; rfl), HB.out⟩

/-- The product of the clamped numbers, clamped. -/
def ml (a b : Int) : Int := cl (cl a * cl b)

theorem ml_pos (x y : Int) (h : 0 ≤ x * y) : cl (x * y) = ((min (x.natAbs * y.natAbs) 1152921504606846976 : Nat) : Int) := by
  have e : x.natAbs * y.natAbs = (x * y).natAbs := (Int.natAbs_mul x y).symm
  rw [e]
  generalize x * y = z at *
  unfold cl
  split
  · omega
  · split <;> omega
theorem ml_neg (x y : Int) (h : x * y ≤ 0) : cl (x * y) = -((min (x.natAbs * y.natAbs) 1152921504606846976 : Nat) : Int) := by
  have e : x.natAbs * y.natAbs = (x * y).natAbs := (Int.natAbs_mul x y).symm
  rw [e]
  generalize x * y = z at *
  unfold cl
  split
  · omega
  · split <;> omega

theorem dig7 {r : List Nat} (hc : Cn r) (hv : vl r ≤ 1152921504606846976) : r.length ≤ 7 := hc.len 7 (by
  have : (1000 : Nat) ^ 7 = 1000000000000000000000 := by decide
  omega)

set_option maxRecDepth 100000 in
set_option maxHeartbeats 800000 in
theorem refmul_any (a b : Int) (w : World) :
    Calls Try.prog 30 #[.int .i64 a, .int .i64 b] w fun e w' => e = .returned (.int .i64 (ml a b)) ∧ Below w.heap.size w w' := by
  have ha := cl_le a
  have hb := cl_le b
  go_enter Try.func30, Try.ntmps30
  go_wp2_with (go_at_call 31; refine (refclamp_any _ _).mono ?_; rintro e w' ⟨rfl, hw'⟩; subst w')
  refine (of_any _ _).mono ?_
  rintro e w1 ⟨ao1, cap1, r1, rfl, hd1, hc1, hv1, hb1⟩
  rw [cl_cl] at hv1
  have k1 : r1.length ≤ 7 := dig7 hc1 (by omega)
  have HD1 := hid hd1
  have HC1 := hid hc1
  have HV1 := hid hv1
  have HB1 := hid hb1
  clear hd1 hc1 hv1 hb1
  go_wp2_with fail
  refine (of_any _ _).mono ?_
  rintro e w2 ⟨ao2, cap2, r2, rfl, hd2, hc2, hv2, hb2⟩
  rw [cl_cl] at hv2
  have k2 : r2.length ≤ 7 := dig7 hc2 (by omega)
  have HD2 := hid hd2
  have HC2 := hid hc2
  have HV2 := hid hv2
  have HB2 := hid hb2
  clear hd2 hc2 hv2 hb2
  go_wp2_with fail
  refine (times_any _ _ r1 _ _ r2 _ (HD1.out.below HB2.out) (by omega) HC1.out.1 HD2.out (by omega) HC2.out.1).mono ?_
  rintro e w3 ⟨ao3, cap3, r3, rfl, hd3, hc3, hv3, hb3⟩
  have k3 : r3.length ≤ 14 := by
    refine hc3.len 14 ?_
    rw [hv3, HV1.out, HV2.out]
    have h1 : (cl a).natAbs * (cl b).natAbs ≤ 1152921504606846976 * 1152921504606846976 := Nat.mul_le_mul (by omega) (by omega)
    have h2 : (1000 : Nat) ^ 14 = 1000000000000000000000000000000000000000000 := by decide
    omega
  have HD3 := hid hd3
  have HC3 := hid hc3
  have HV3 : Hid (vl r3 = (cl a).natAbs * (cl b).natAbs) := by show _ = _; rw [hv3, HV1.out, HV2.out]
  have HB3 := hid hb3
  clear hd3 hc3 hv3 hb3
  go_wp2_with fail
  refine (back_any _ _ r3 _ HD3.out (by omega) HC3.out.1).mono ?_
  rintro e w4 ⟨rfl, hb4⟩
  have HB : Hid (Below w.heap.size w w4) := by
    have a1 := HB1.out
    have a2 := a1.trans (HB2.out.mono a1.size)
    have a3 := a2.trans (HB3.out.mono a2.size)
    exact a3.trans (hb4.mono a3.size)
  rw [HV3.out]
  have HP : Hid (0 ≤ cl a * cl b → ml a b = ((min ((cl a).natAbs * (cl b).natAbs) 1152921504606846976 : Nat) : Int)) := fun h => ml_pos _ _ h
  have HQ : Hid (cl a * cl b ≤ 0 → ml a b = -((min ((cl a).natAbs * (cl b).natAbs) 1152921504606846976 : Nat) : Int)) := fun h => ml_neg _ _ h
  have hm : min ((cl a).natAbs * (cl b).natAbs) 1152921504606846976 ≤ 1152921504606846976 := Nat.min_le_right _ _
  clear hb4 k1 k2 k3
  generalize min ((cl a).natAbs * (cl b).natAbs) 1152921504606846976 = m at *
  by_cases s1 : cl a < 0
  · by_cases s2 : 0 < cl b
    · go_wp2_with fail
      go_ret
      exact ⟨ret_int (by rw [HQ.out (Int.mul_nonpos_of_nonpos_of_nonneg (by omega) (by omega))]), HB.out⟩
    · go_wp2_with fail
      go_ret
      exact ⟨ret_int (by rw [HP.out (Int.mul_nonneg_of_nonpos_of_nonpos (by omega) (by omega))]), HB.out⟩
  · by_cases s3 : 0 < cl a
    · by_cases s2 : cl b < 0
      · go_wp2_with fail
        go_ret
        exact ⟨ret_int (by rw [HQ.out (Int.mul_nonpos_of_nonneg_of_nonpos (by omega) (by omega))]), HB.out⟩
      · go_wp2_with fail
        go_ret
        exact ⟨ret_int (by rw [HP.out (Int.mul_nonneg (by omega) (by omega))]), HB.out⟩
    · have z : cl a = 0 := by omega
      have HZ : Hid (0 ≤ cl a * cl b) := by rw [z, Int.zero_mul]; show (0 : Int) ≤ 0; omega
      clear z
      go_wp2_with fail
      go_ret
      exact ⟨ret_int (by rw [HP.out HZ.out]), HB.out⟩
end Go.Proofs.Ytkoaoejlbkdkgab
