/-
  What the document's Quotient, MulDiv, Div and Mod answer: Quotient: the quotient rounded down, at most Most, and whether it is exact; the others from it.
-/
import Derived.Test.YtcdcpmcjlchfgaaScV
import Derived.Test.YtcdcpmcjlchfgaaScX
namespace Go.Proofs.Ytcdcpmcjlchfgaa.Sc
open Go.RowKit
set_option linter.unusedSimpArgs false
set_option linter.unusedVariables false

/-- The quotient, at most Most; whether it is exact. -/
def qt (x y : Nat) : Nat := min (x / y) 1152921504606846976
def ex (x y : Nat) : Bool := decide (qt x y * y = x)

theorem qt_le (x y : Nat) : qt x y ≤ 1152921504606846976 := Nat.min_le_right _ _
/-- Of the numbers up to Most just those up to the quotient do. -/
theorem qt_test (x y m : Nat) (hy : 0 < y) (hm : m ≤ 1152921504606846976) : m * y ≤ x ↔ m ≤ qt x y := by
  unfold qt
  rw [Nat.le_min]
  constructor
  · intro h; exact ⟨(Nat.le_div_iff_mul_le hy).2 h, hm⟩
  · intro h; exact (Nat.le_div_iff_mul_le hy).1 h.1

set_option maxRecDepth 100000 in
set_option maxHeartbeats 1000000 in
theorem quotient_any (ao1 : Option Addr) (cap1 : Nat) (a : List Nat) (ao2 : Option Addr) (cap2 : Nat) (b : List Nat) (w : World)
    (hd1 : Dg w ao1 cap1 a) (hl1 : a.length ≤ 60) (hs1 : ∀ d ∈ a, d < 1000) (hd2 : Dg w ao2 cap2 b) (hl2 : b.length ≤ 60) (hs2 : ∀ d ∈ b, d < 1000) (hy : 0 < vl b) :
    Calls Try.prog 77 #[.slice ao1 a.length cap1, .slice ao2 b.length cap2] w fun e w' => e = .returned (.tuple #[.int .i64 (qt (vl a) (vl b) : Nat), .bool (ex (vl a) (vl b))]) ∧ Below w.heap.size w w' := by
  have HD1 := hid hd1
  have HD2 := hid hd2
  have HS1 := hid hs1
  have HS2 := hid hs2
  clear hd1 hd2 hs1 hs2
  have HY := hid hy
  clear hy
  go_enter Try.func77, Try.ntmps77
  go_wp2_with fail
  go_loopw [6, 7] (fun s t wr => ∃ lo hi : Nat, lo ≤ hi ∧ hi ≤ 1152921504606846976 ∧ s = .int .i64 lo ∧ t = .int .i64 hi ∧ Hid (lo ≤ qt (vl a) (vl b) ∧ qt (vl a) (vl b) ≤ hi) ∧ Hid (Below w.heap.size w wr)) (fun s t _ => (intOf t - intOf s).toNat)
  case atStart => exact ⟨0, 1152921504606846976, by omega, by omega, rfl, rfl, ⟨Nat.zero_le _, qt_le _ _⟩, Below.refl _ _⟩
  case round =>
    obtain ⟨lo, hi, h1, h2, rfl, rfl, HQ, HB⟩ := hrel
    by_cases hlt : lo < hi
    · obtain ⟨m, hm⟩ : ∃ m : Nat, lo + (hi - lo + 1) / 2 = m := ⟨_, rfl⟩
      have em : (lo : Int) + ((hi : Int) - (lo : Int) + 1) / 2 = (m : Int) := by omega
      have m1 : lo < m := by omega
      have m2 : m ≤ hi := by omega
      have HM := hid hm
      clear hm
      have HT := hid (qt_test (vl a) (vl b) m HY.out (by omega))
      go_wp2_with fail
      refine (of_any _ _).mono ?_
      rintro e w1 ⟨ao3, cap3, r3, rfl, hd3, hc3, hv3, hb3⟩
      rw [cl_same (m : Int) (by omega) (by omega)] at hv3
      have hv3 : vl r3 = m := by rw [hv3]; omega
      have k3 : r3.length ≤ 7 := dig7 hc3 (by omega)
      have HD3 := hid hd3
      have HC3 := hid hc3
      have HV3 := hid hv3
      have HB3 : Hid (Below w.heap.size w w1) := HB.out.trans (hb3.mono HB.out.size)
      clear hd3 hc3 hv3 hb3
      go_wp2_with fail
      refine (times_any _ _ r3 _ _ b _ HD3.out (by omega) HC3.out.1 (HD2.out.below HB3.out) (by omega) HS2.out).mono ?_
      rintro e w2 ⟨ao4, cap4, r4, rfl, hd4, hc4, hv4, hb4⟩
      have k4 : r4.length ≤ 67 := by
        refine hc4.len 67 ?_
        rw [hv4]
        have a1 := vl_lt r3 HC3.out.1
        have a2 := vl_lt b HS2.out
        have a3 : vl r3 * vl b < 1000 ^ r3.length * 1000 ^ b.length := Nat.mul_lt_mul'' a1 a2
        rw [← Nat.pow_add] at a3
        have a4 : 1000 ^ (r3.length + b.length) ≤ 1000 ^ 67 := Nat.pow_le_pow_right (by omega) (by omega)
        exact Nat.lt_of_lt_of_le a3 a4
      rw [HV3.out] at hv4
      have HD4 := hid hd4
      have HC4 := hid hc4
      have HV4 := hid hv4
      have HB4 : Hid (Below w.heap.size w w2) := HB3.out.trans (hb4.mono HB3.out.size)
      clear hd4 hc4 hv4 hb4
      go_wp2_with fail
      refine (compare_any _ _ r4 _ _ a _ HD4.out (by omega) HC4.out.1 (HD1.out.below HB4.out) (by omega) HS1.out).mono ?_
      rintro e w3 ⟨rfl, hb5⟩
      have HB5 : Hid (Below w.heap.size w w3) := HB4.out.trans (hb5.mono HB4.out.size)
      rw [HV4.out]
      clear hb5 k3 k4
      by_cases c : m * vl b ≤ vl a
      · have g : cp (m * vl b) (vl a) ≤ 0 := by
          rcases Nat.lt_or_ge (m * vl b) (vl a) with h | h
          · rw [cp_lt h]; omega
          · rw [cp_eq (by omega)]; omega
        have HN : Hid (m ≤ qt (vl a) (vl b)) := HT.out.1 c
        clear c
        generalize cp (m * vl b) (vl a) = cc at *
        go_wp2_with fail
        go_roundw
        case rel => exact ⟨m, hi, m2, h2, rfl, rfl, ⟨HN.out, HQ.out.2⟩, HB5⟩
        case measure => simp [intOf]; omega
      · have g : ¬ cp (m * vl b) (vl a) ≤ 0 := by
          rw [cp_gt (by omega)]; omega
        have HN : Hid (¬ m ≤ qt (vl a) (vl b)) := fun h => c (HT.out.2 h)
        clear c
        generalize cp (m * vl b) (vl a) = cc at *
        go_wp2_with fail
        go_roundw
        case rel => exact ⟨lo, m - 1, by omega, by omega, rfl, by go_num, ⟨HQ.out.1, by have := HN.out; omega⟩, HB5⟩
        case measure => simp [intOf]; omega
    · have e : lo = hi := by omega
      have eq : qt (vl a) (vl b) = lo := by have := HQ.out; omega
      have HE := hid eq
      clear eq e HQ
      go_wp2_with fail
      refine (of_any _ _).mono ?_
      rintro e w1 ⟨ao3, cap3, r3, rfl, hd3, hc3, hv3, hb3⟩
      rw [cl_same (lo : Int) (by omega) (by omega)] at hv3
      have hv3 : vl r3 = lo := by rw [hv3]; omega
      have k3 : r3.length ≤ 7 := dig7 hc3 (by omega)
      have HD3 := hid hd3
      have HC3 := hid hc3
      have HV3 := hid hv3
      have HB3 : Hid (Below w.heap.size w w1) := HB.out.trans (hb3.mono HB.out.size)
      clear hd3 hc3 hv3 hb3
      go_wp2_with fail
      refine (times_any _ _ r3 _ _ b _ HD3.out (by omega) HC3.out.1 (HD2.out.below HB3.out) (by omega) HS2.out).mono ?_
      rintro e w2 ⟨ao4, cap4, r4, rfl, hd4, hc4, hv4, hb4⟩
      have k4 : r4.length ≤ 67 := by
        refine hc4.len 67 ?_
        rw [hv4]
        have a1 := vl_lt r3 HC3.out.1
        have a2 := vl_lt b HS2.out
        have a3 : vl r3 * vl b < 1000 ^ r3.length * 1000 ^ b.length := Nat.mul_lt_mul'' a1 a2
        rw [← Nat.pow_add] at a3
        have a4 : 1000 ^ (r3.length + b.length) ≤ 1000 ^ 67 := Nat.pow_le_pow_right (by omega) (by omega)
        exact Nat.lt_of_lt_of_le a3 a4
      rw [HV3.out] at hv4
      have HD4 := hid hd4
      have HC4 := hid hc4
      have HV4 := hid hv4
      have HB4 : Hid (Below w.heap.size w w2) := HB3.out.trans (hb4.mono HB3.out.size)
      clear hd4 hc4 hv4 hb4
      go_wp2_with fail
      refine (compare_any _ _ r4 _ _ a _ HD4.out (by omega) HC4.out.1 (HD1.out.below HB4.out) (by omega) HS1.out).mono ?_
      rintro e w3 ⟨rfl, hb5⟩
      have HB5 : Hid (Below w.heap.size w w3) := HB4.out.trans (hb5.mono HB4.out.size)
      rw [HV4.out]
      have HX : Hid ((cp (lo * vl b) (vl a) == 0) = ex (vl a) (vl b)) := by
        show _ = _
        unfold ex
        rw [HE.out]
        rcases Nat.lt_trichotomy (lo * vl b) (vl a) with h | h | h
        · rw [cp_lt h]; simp; omega
        · rw [cp_eq h]; simp [h]
        · rw [cp_gt h]; simp; omega
      clear hb5 k3 k4
      generalize cp (lo * vl b) (vl a) = cc at *
      go_wp2_with fail
      go_ret2
      refine ⟨?_, HB5.out⟩
      rw [← HX.out, HE.out]
      rfl
end Go.Proofs.Ytcdcpmcjlchfgaa.Sc
