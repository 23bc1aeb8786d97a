/-
  What the document's Compare answers: -1, 0 or 1 as the first number is less than, as great as or greater than the second.
-/
import Derived.Test.YtcdcpmcjlchfgaaScE
namespace Go.Proofs.Ytcdcpmcjlchfgaa.Sc
open Go.RowKit
set_option linter.unusedSimpArgs false
set_option linter.unusedVariables false

/-- How two numbers compare. -/
def cp (x y : Nat) : Int := if x < y then -1 else if y < x then 1 else 0
theorem cp_lt {x y : Nat} (h : x < y) : cp x y = -1 := by simp [cp, h]
theorem cp_gt {x y : Nat} (h : y < x) : cp x y = 1 := by unfold cp; rw [if_neg (by omega), if_pos h]
theorem cp_eq {x y : Nat} (h : x = y) : cp x y = 0 := by unfold cp; rw [if_neg (by omega), if_neg (by omega)]

theorem drop_eq_step (a b : List Nat) (k : Nat) (hl : a.length = b.length) (hk : k < a.length) (h : a.drop (k + 1) = b.drop (k + 1)) (e : a.getD k 0 = b.getD k 0) : a.drop k = b.drop k := by
  rw [getD_at _ _ hk, getD_at _ _ (by omega)] at e
  rw [List.drop_eq_getElem_cons hk, List.drop_eq_getElem_cons (by omega : k < b.length), h, e]

set_option maxRecDepth 100000 in
set_option maxHeartbeats 800000 in
theorem compare_any (ao1 : Option Addr) (cap1 : Nat) (l1 : List Nat) (ao2 : Option Addr) (cap2 : Nat) (l2 : List Nat) (w : World)
    (hd1 : Dg w ao1 cap1 l1) (hl1 : l1.length ≤ 1000) (hs1 : ∀ d ∈ l1, d < 1000) (hd2 : Dg w ao2 cap2 l2) (hl2 : l2.length ≤ 1000) (hs2 : ∀ d ∈ l2, d < 1000) :
    Calls Try.prog 85 #[.slice ao1 l1.length cap1, .slice ao2 l2.length cap2] w fun e w' => e = .returned (.int .i64 (cp (vl l1) (vl l2))) ∧ Below w.heap.size w w' := by
  have HD1 := hid hd1
  have HD2 := hid hd2
  have HS1 := hid hs1
  have HS2 := hid hs2
  clear hd1 hd2 hs1 hs2
  go_enter Try.func85, Try.ntmps85
  go_wp2_with fail
  refine (bare_any ao1 cap1 l1 _ HD1.out hl1 HS1.out).mono ?_
  rintro e w1 ⟨b1, c1, r1, rfl, hd1, hc1, hv1, hb1⟩
  have HE1 := hid hd1
  have HC1 := hid hc1
  have HV1 := hid hv1
  clear hd1 hc1 hv1
  go_wp2_with fail
  refine (bare_any ao2 cap2 l2 _ (HD2.out.below hb1) hl2 HS2.out).mono ?_
  rintro e w2 ⟨b2, c2, r2, rfl, hd2, hc2, hv2, hb2⟩
  have hd1 := HE1.out.below hb2
  have HB : Hid (Below w.heap.size w w2) := hb1.trans (hb2.mono hb1.size)
  have HC2 := hid hc2
  have HV2 := hid hv2
  obtain ⟨⟨n1, m1⟩, hd1⟩ := hd1
  obtain ⟨⟨n2, m2⟩, hd2⟩ := hd2
  have HX1 := hid hd1
  have HX2 := hid hd2
  clear hd1 hd2 hc2 hv2 HE1 hb1 hb2 HD1 HD2
  unfold maxLen at m1 m2
  rcases Nat.lt_trichotomy r1.length r2.length with h | h | h
  · have hne : ((r1.length : Int) != (r2.length : Int)) = true := by simp; omega
    go_wp2_with fail
    go_ret
    refine ⟨ret_int ?_, HB.out⟩
    rw [← HV1.out, ← HV2.out, cp_lt (HC1.out.shorter HC2.out h)]
  · have hne : ((r1.length : Int) != (r2.length : Int)) = false := by simp [h]
    have HL := hid h
    have h1 : r2.length ≤ r1.length := by omega
    have h2 : r1.length ≤ r2.length := by omega
    clear h
    go_wp2_with fail
    go_loopw [5] (fun t wr => ∃ (k n : Nat), k ≤ r1.length ∧ t = .int .i64 ((k : Int) - 1) ∧ Hid (r1.drop k = r2.drop k) ∧ wr = w2.drewN n) (fun t _ => (intOf t + 1).toNat)
    case atStart => exact ⟨r1.length, 0, Nat.le_refl _, rfl, (by show _ = _; rw [List.drop_of_length_le (Nat.le_refl _), List.drop_of_length_le (by omega)]), rfl⟩
    case round =>
      obtain ⟨k, n, hk, rfl, HK, rfl⟩ := hrel
      by_cases h0 : k = 0
      · have hlt : ((k : Int) - 1) < 0 := by omega
        go_wp2_with fail
        go_ret
        refine ⟨ret_int ?_, (HB.out.trans (bel_drewN _ _ _))⟩
        have := HK.out
        rw [h0, List.drop_zero, List.drop_zero] at this
        rw [← HV1.out, ← HV2.out, cp_eq (by rw [this])]
      · rcases HX1.out with h | ⟨g1, o1, e1, q1, cc1⟩
        · exfalso; rw [h] at hk; simp at hk; omega
        have hkk : k ≤ r2.length := by have := HL.out; omega
        rcases HX2.out with h | ⟨g2, o2, e2, q2, cc2⟩
        · exfalso; rw [h] at hkk; simp at hkk; omega
        subst e1 e2
        have f1 := cc1 (k - 1) (by omega)
        have f2 := cc2 (k - 1) (by omega)
        clear cc1 cc2
        have HK' : Hid (r1.drop (k - 1 + 1) = r2.drop (k - 1 + 1)) := by rw [show k - 1 + 1 = k by omega]; exact HK
        have HD : Hid (∀ (h1 : k - 1 < r1.length) (h2 : k - 1 < r2.length), r1[k - 1] < r2[k - 1] ↔ r1.getD (k - 1) 0 < r2.getD (k - 1) 0) := by
          intro h1 h2; rw [getD_at _ _ h1, getD_at _ _ h2]
        have HD2 : Hid (∀ (h1 : k - 1 < r1.length) (h2 : k - 1 < r2.length), r2[k - 1] < r1[k - 1] ↔ r2.getD (k - 1) 0 < r1.getD (k - 1) 0) := by
          intro h1 h2; rw [getD_at _ _ h1, getD_at _ _ h2]
        have HD3 : Hid (r1.getD (k - 1) 0 = r2.getD (k - 1) 0 → r1.drop (k - 1) = r2.drop (k - 1)) := drop_eq_step r1 r2 (k - 1) HL.out (by omega) HK'.out
        generalize r1.getD (k - 1) 0 = x at *
        generalize r2.getD (k - 1) 0 = y at *
        rcases Nat.lt_trichotomy x y with g | g | g
        · have g' : (x : Int) < (y : Int) := by omega
          go_wp2_with fail
          go_quiet (fail)
          go_wp2_with fail
          go_ret
          refine ⟨ret_int ?_, (HB.out.trans (bel_drewN _ _ _)).trans (bel_drewN _ _ _)⟩
          rw [← HV1.out, ← HV2.out, cp_lt (vl_less HC1.out.1 (k - 1) HL.out (by omega) HK'.out ((HD.out (by omega) (by omega)).2 g))]
        · subst g
          go_wp2_with fail
          go_quiet (fail)
          go_wp2_with fail
          go_quiet (fail)
          go_wp2_with fail
          go_roundw
          case rel => exact ⟨k - 1, _, by omega, by go_num, HD3.out (by trivial), rfl⟩
          case measure => simp [intOf]; omega
        · have g' : (y : Int) < (x : Int) := by omega
          go_wp2_with fail
          go_quiet (fail)
          go_wp2_with fail
          go_quiet (fail)
          go_wp2_with fail
          go_ret
          refine ⟨ret_int ?_, ((HB.out.trans (bel_drewN _ _ _)).trans (bel_drewN _ _ _)).trans (bel_drewN _ _ _)⟩
          rw [← HV1.out, ← HV2.out, cp_gt (vl_less HC2.out.1 (k - 1) HL.out.symm (by omega) HK'.out.symm ((HD2.out (by omega) (by omega)).2 g))]
  · have hne : ((r1.length : Int) != (r2.length : Int)) = true := by simp; omega
    go_wp2_with fail
    go_ret
    refine ⟨ret_int ?_, HB.out⟩
    rw [← HV1.out, ← HV2.out, cp_gt (HC2.out.shorter HC1.out h)]
end Go.Proofs.Ytcdcpmcjlchfgaa.Sc
