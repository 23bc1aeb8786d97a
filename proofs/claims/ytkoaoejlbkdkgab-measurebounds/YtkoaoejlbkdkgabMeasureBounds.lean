/-
  For any items, any break and any width the statement MeasureBounds of the program returns true: where the items are a paragraph's, and few, neither of Bounds' numbers falls for a later end, a line that can't be narrow enough is Over, and one that can't be wide enough is as bad as may be; what was handed in is unchanged. No condition besides the statement's own.
-/
import Derived.Test.YtkoaoejlbkdkgabRows
import Derived.WalkKit
import Derived.ProofKit
import Derived.OpenShut
import Derived.SizedLaws
import Derived.ShutString
import Derived.ChangeOld
import Derived.Below
import Derived.Test.YtkoaoejlbkdkgabFa
import Derived.Test.YtkoaoejlbkdkgabEw
import Derived.Test.YtkoaoejlbkdkgabEl
import Derived.Lib.QuietBelow
import Derived.BigQuiet
namespace Go.Proofs.Ytkoaoejlbkdkgab.measureBounds
open Go.ChangeShapes Go.WideShapes Go.ChangeAt Go.RowKit
open Go.ChangeMaps (open_string shut_string)
set_option linter.unusedVariables false
set_option linter.unusedSimpArgs false

theorem own : ownKnob Try.prog.godebug = none := by kernel_rfl
theorem laidOut : laidOutB Try.prog = true := by kernel_rfl

set_option maxRecDepth 100000 in
set_option maxHeartbeats 40000000 in
theorem walk (w : World) (ao0 : Option Addr) (n0 cap0 : Nat) (I0 : Nat → Itm) (hn0 : n0 ≤ maxLen) (hI0 : ItsAt (fun _ => True) w ao0 n0 I0) (a1 : Int) (w1 : (Lit.int .i64 a1).wf = true) (a2 : Int) (w2 : (Lit.int .i64 a2).wf = true) :
    Calls Try.prog 5 #[.slice ao0 n0 cap0, .int .i64 a1, .int .i64 a2] w fun e w' => e = .returned (.bool true) ∧ Below w.heap.size w w' := by
  have hA := fun w => awake_any w
  have HI := boxed hI0
  unfold maxLen at hn0
  by_cases hg : n0 ≤ 400 ∧ rgt I0 n0 = true
  rotate_left
  · have hP := boxed (fun W (hb : Below w.heap.size w W) => para_none (fun _ => True) ao0 n0 cap0 I0 W (HI.out.below hb) (by unfold maxLen; omega) (by
      by_cases q : 400 < n0
      · exact .inl q
      · right
        cases e : rgt I0 n0 with
        | false => rfl
        | true => exact absurd ⟨by omega, e⟩ hg))
    clear hI0 hg
    go_enter Try.func5, Try.ntmps5
    go_wp2_with fail
    refine (hA _).mono ?_
    rintro e w1 ⟨rfl, hb1⟩
    have HB1 := boxed hb1
    clear hb1
    go_wp2_with fail
    refine (hP.out _ HB1.out).mono ?_
    rintro e w2 ⟨rfl, hb2⟩
    have HB2 := boxed (below_step HB1.out (Nat.le_refl _) hb2)
    clear hb2
    go_wp2_with fail
    go_ret
    exact ⟨rfl, HB2.out⟩
  have hP := boxed (fun W (hb : Below w.heap.size w W) => para_some (fun _ => True) ao0 n0 cap0 I0 W (HI.out.below hb) hg.1 hg.2)
  obtain ⟨h0, h1, -, hok⟩ := (rgt_iff I0 n0).1 hg.2
  clear hI0 hg
  by_cases u1 : a2 < -1099511627776
  · have t1 : decide (a2 < -1099511627776) = true := decide_eq_true u1
    go_enter Try.func5, Try.ntmps5
    go_wp2_with fail
    refine (hA _).mono ?_
    rintro e w1 ⟨rfl, hb1⟩
    have HB1 := boxed hb1
    clear hb1
    go_wp2_with fail
    refine (hP.out _ HB1.out).mono ?_
    rintro e w2 ⟨pb, rfl, hPa, hb2⟩
    have HB2 := boxed (below_step HB1.out (Nat.le_refl _) hb2)
    clear hb2 hPa
    go_wp2_with fail
    go_ret
    exact ⟨rfl, HB2.out⟩
  by_cases u2 : 1099511627776 < a2
  · have t1 : decide (1099511627776 < a2) = true := decide_eq_true u2
    have t2 : decide (a2 < -1099511627776) = false := decide_eq_false u1
    go_enter Try.func5, Try.ntmps5
    go_wp2_with fail
    refine (hA _).mono ?_
    rintro e w1 ⟨rfl, hb1⟩
    have HB1 := boxed hb1
    clear hb1
    go_wp2_with fail
    refine (hP.out _ HB1.out).mono ?_
    rintro e w2 ⟨pb, rfl, hPa, hb2⟩
    have HB2 := boxed (below_step HB1.out (Nat.le_refl _) hb2)
    clear hb2 hPa
    go_wp2_with fail
    go_ret
    exact ⟨rfl, HB2.out⟩
  have t1 : decide (a2 < -1099511627776) = false := decide_eq_false u1
  have t2 : decide (1099511627776 < a2) = false := decide_eq_false u2
  go_enter Try.func5, Try.ntmps5
  go_wp2_with fail
  refine (hA _).mono ?_
  rintro e w1 ⟨rfl, hb1⟩
  have HB1 := boxed hb1
  clear hb1
  go_wp2_with fail
  refine (hP.out _ HB1.out).mono ?_
  rintro e w2 ⟨pb, rfl, hPa, hb2⟩
  have HP2 := boxed hPa
  have HB2 := boxed (below_step HB1.out (Nat.le_refl _) hb2)
  clear hb2 hPa hA hP
  have hBo := boxed (fun W k (hb : Below w2.heap.size w2 W) => bounds_any (HP2.out.below hb) h1 hok a1 k)
  have hFi := boxed (fun W k (hb : Below w2.heap.size w2 W) => pfit_any (HP2.out.below hb) h1 hok a1 k a2 (by omega))
  clear HP2
  go_wp2_with fail
  go_loopw [8, 9, 10, 11] (fun nv wv bv kv wr => ∃ (k : Nat) (nn ww : Int) (ff : Bool), k ≤ n0 ∧ nv = .int .i64 nn ∧ wv = .int .i64 ww ∧ bv = .bool ff ∧ kv = .int .i64 (k : Int) ∧ Box (∀ j, k = j + 1 → nn = (upt I0 n0 a1 (j : Int)).w - (upt I0 n0 a1 (j : Int)).sh ∧ ww = (upt I0 n0 a1 (j : Int)).w + 5 * (upt I0 n0 a1 (j : Int)).st + wst I0 n0 ∧ ff = decide (0 < (upt I0 n0 a1 (j : Int)).f)) ∧ Box (Below w2.heap.size w2 wr)) (fun _ _ _ kv _ => n0 - (intOf kv).toNat)
  case atStart => exact ⟨0, 0, 0, false, Nat.zero_le _, rfl, rfl, rfl, rfl, boxed (fun j hj => by omega), boxed (Below.refl _ _)⟩
  case round =>
    obtain ⟨k, nn, ww, ff, hk, rfl, rfl, rfl, rfl, HK, HB⟩ := hrel
    by_cases hlt : k < n0
    · have t3 : decide ((k : Int) < (n0 : Int)) = true := decide_eq_true (by omega)
      have t3' : decide (k < n0) = true := decide_eq_true hlt
      have HM : Box (0 < k → nn ≤ (upt I0 n0 a1 (k : Int)).w - (upt I0 n0 a1 (k : Int)).sh ∧ ww ≤ (upt I0 n0 a1 (k : Int)).w + 5 * (upt I0 n0 a1 (k : Int)).st + wst I0 n0 ∧ (ff = true → decide (0 < (upt I0 n0 a1 (k : Int)).f) = true)) := boxed (fun h => by
        obtain ⟨j, rfl⟩ : ∃ j, k = j + 1 := ⟨k - 1, by omega⟩
        obtain ⟨e1, e2, e3⟩ := HK.out j rfl
        have hm := upt_mono I0 n0 hok a1 j hlt
        refine ⟨by omega, by omega, fun h => ?_⟩
        rw [h] at e3
        have e4 := of_decide_eq_true e3.symm
        exact decide_eq_true (by omega))
      have HO := boxed (fit_over I0 n0 h1 hok a1 k hlt a2)
      have HD := boxed (fit_bad I0 n0 h1 hok a1 k hlt a2 (by omega))
      have HN : Box (∀ j, k + 1 = j + 1 → (upt I0 n0 a1 (k : Int)).w - (upt I0 n0 a1 (k : Int)).sh = (upt I0 n0 a1 (j : Int)).w - (upt I0 n0 a1 (j : Int)).sh ∧ (upt I0 n0 a1 (k : Int)).w + 5 * (upt I0 n0 a1 (k : Int)).st + wst I0 n0 = (upt I0 n0 a1 (j : Int)).w + 5 * (upt I0 n0 a1 (j : Int)).st + wst I0 n0 ∧ decide (0 < (upt I0 n0 a1 (k : Int)).f) = decide (0 < (upt I0 n0 a1 (j : Int)).f)) := boxed (fun j hj => by
        obtain rfl : k = j := by omega
        exact ⟨rfl, rfl, rfl⟩)
      have hbo := hBo.out wr (k : Int) HB.out
      have hfi := boxed (fun W hb => hFi.out W (k : Int) hb)
      obtain ⟨f0, f1, f2, f3, f4, hF⟩ : ∃ a b c d e, setF (lin I0 n0 a1 (k : Int)) a2 = ⟨a, b, c, d, e⟩ := ⟨_, _, _, _, _, rfl⟩
      rw [hF] at HO HD hfi
      simp only at HO HD
      unfold Ft.val at hfi
      simp only at hfi
      generalize hN : (upt I0 n0 a1 (k : Int)).w - (upt I0 n0 a1 (k : Int)).sh = N at HM HO HN hbo
      generalize hE : (upt I0 n0 a1 (k : Int)).w + 5 * (upt I0 n0 a1 (k : Int)).st + wst I0 n0 = E at HM HD HN hbo
      have HD2 : Box (E < a2 → decide (0 < (upt I0 n0 a1 (k : Int)).f) = false → f2 = 10000) := boxed (fun h1 h2 => HD.out h1 (of_decide_eq_false h2))
      clear HD HK
      generalize hG : decide (0 < (upt I0 n0 a1 (k : Int)).f) = F at HM HD2 HN hbo
      clear hN hE hG hF
      have HKL := boxed (And.intro hk hlt)
      have hw : (decide (a2 < N) = true ∧ f4 = true ∧ ((decide (E < a2) = true ∧ (F = true ∨ (F = false ∧ f2 = 10000))) ∨ decide (E < a2) = false)) ∨ (decide (a2 < N) = false ∧ ((decide (E < a2) = true ∧ (F = true ∨ (F = false ∧ f2 = 10000))) ∨ decide (E < a2) = false)) := by
        have q : (decide (E < a2) = true ∧ (F = true ∨ (F = false ∧ f2 = 10000))) ∨ decide (E < a2) = false := by
          by_cases d2 : E < a2
          · left
            refine ⟨decide_eq_true d2, ?_⟩
            cases F
            · exact .inr ⟨rfl, HD2.out d2 rfl⟩
            · exact .inl rfl
          · exact .inr (decide_eq_false d2)
        by_cases d1 : a2 < N
        · exact .inl ⟨decide_eq_true d1, HO.out d1, q⟩
        · exact .inr ⟨decide_eq_false d1, q⟩
      have hz : (decide ((0 : Int) < (k : Int)) = false ∧ decide (0 < k) = false) ∨ (decide ((0 : Int) < (k : Int)) = true ∧ decide (0 < k) = true ∧ decide (N < nn) = false ∧ decide (E < ww) = false ∧ (ff = false ∨ F = true)) := by
        by_cases z : 0 < k
        · right
          obtain ⟨m1, m2, m3⟩ := HM.out z
          refine ⟨decide_eq_true (by omega), decide_eq_true z, decide_eq_false (by omega), decide_eq_false (by omega), ?_⟩
          cases ff
          · exact .inl rfl
          · exact .inr (m3 rfl)
        · exact .inl ⟨decide_eq_false (by omega), decide_eq_false z⟩
      have hkb : k ≤ 262144 := by omega
      clear HO HD2 HM hlt hk hBo hFi
      cases F
      all_goals cases ff
      all_goals rcases hz with ⟨z1, z2⟩ | ⟨z1, z2, z3, z4, z5 | z5⟩
      all_goals rcases hw with ⟨s1, s4, ⟨s2, s3 | ⟨s3, s5⟩⟩ | s2⟩ | ⟨s1, ⟨s2, s3 | ⟨s3, s5⟩⟩ | s2⟩
      all_goals try cases z5
      all_goals try cases s3
      all_goals try subst s4
      all_goals try subst s5
      all_goals
        go_wp2_with fail
        refine hbo.mono ?_
        rintro e w3 ⟨rfl, hb3⟩
        have HB3 := boxed (below_step HB.out (Nat.le_refl _) hb3)
        clear hb3
        go_wp2_with fail
        refine (hfi.out _ HB3.out).mono ?_
        rintro e w4 ⟨rfl, hb4⟩
        have HB4 := boxed (below_step HB3.out (Nat.le_refl _) hb4)
        clear hb4
        go_wp2_with fail
        go_roundw
        case rel => exact ⟨k + 1, N, E, _, by have := HKL.out; omega, rfl, rfl, rfl, by go_num, HN, boxed (HB4.out.alloc HB4.out.size _)⟩
        case measure => have := HKL.out; simp [intOf]; omega
    · obtain rfl : n0 = k := by omega
      have t3 : decide ((n0 : Int) < (n0 : Int)) = false := decide_eq_false (by omega)
      go_wp2_with fail
      go_ret
      exact ⟨rfl, below_step HB2.out (Nat.le_refl _) HB.out⟩

set_option maxRecDepth 100000 in
theorem lifted (os : Os) (started : os.Started) (H : Type) (enc : TypeId × Value → H) :
    ReturnsInHanded {} Try.checked os 5 .any (Rows.measureBoundsSpec.pre6 enc Try.prog Try.f5 Rows.measureBoundsRow.domain false) (Rows.measureBoundsSpec.post enc Try.prog Try.f5 false true false false) := by
  refine returnsInHanded_of_change_sized (C := Try.checked) own started (by kernel_rfl) Try.func5
    (ChangeSpec.witness6 (enc := enc) (C := Try.checked) false ⟨#[], #[.slice none 0 0, .int .i64 0, .int .i64 0], []⟩ 8 (by kernel_rfl) (by kernel_rfl) (by kernel_rfl) (by kernel_rfl)) ?_
  intro W base args ds gs before hval0 hW hcnd hsz0 _
  have hval : ∀ (j : Nat) t v, Try.f5.params[j]? = some t → args[j]? = some v → Value.okWide Try.prog W .any base t v := hval0
  have hsz : (DataW.weightsEach Try.prog (Try.f5.params.toList ++ Rows.measureBoundsSpec.plain.varTypes Try.prog) (ds ++ gs)).all (· ≤ reachBytes) = true := hsz0
  have hW' := hW
  obtain ⟨p, q, hA0, hV, rfl, hfz, hnd⟩ := hW
  have hA : DataW.TrodAll enc Try.prog W 0 (fun _ => true) true Try.f5.params.toList args.toList ds p := hA0
  rw [Try.params5] at hA hval hsz
  obtain ⟨v0, vs0, d0, ds0, p0, q0, hargs, rfl, rfl, h0, r0⟩ := trodAll_cons hA
  obtain ⟨v1, vs1, d1, ds1, p1, q1, rfl, rfl, rfl, h1, r1⟩ := trodAll_cons r0
  obtain ⟨v2, vs2, d2, ds2, p2, q2, rfl, rfl, rfl, h2, r2⟩ := trodAll_cons r1
  obtain ⟨rfl, rfl, rfl⟩ := trodAll_nil r2
  obtain rfl : args = #[v0, v1, v2] := by cases args; simp_all
  obtain ⟨rfl, rfl⟩ := trodVars_none hV
  obtain ⟨ao0, n0, cap0, rfl⟩ := okWide_slice Try.underlying38 (hval 0 38 v0 rfl rfl)
  have k0 := h0
  have lt0 : ∀ x ∈ p0, x.block < W.heap.size := by obtain ⟨m, hm⟩ := k0; exact DataW.trod_lt m _ _ _ hm
  obtain ⟨hn0, I0, hI0⟩ : n0 ≤ maxLen ∧ ∃ I, ItsAt (fun _ => True) W ao0 n0 I := by
    obtain ⟨fuel, hf⟩ := k0
    exact open_items hf
  obtain ⟨a1, rfl, rfl, rfl, w1⟩ := open_int Try.underlying3 (hval 1 3 v1 rfl rfl) h1
  obtain ⟨a2, rfl, rfl, rfl, w2⟩ := open_int Try.underlying3 (hval 2 3 v2 rfl rfl) h2
  clear hA0 hval0
  refine (walk W ao0 n0 cap0 I0 hn0 hI0 a1 w1 a2 w2).mono fun e W' ⟨he, hg⟩ => ?_
  subst he
  exact ⟨_, rfl, _, _, _, [], _, [], hW', trodAll_mk1 (shut_bool Try.underlying4 _), (trodAll_cons_mk (Below.trod laidOut (by kernel_rfl) (of_decide_eq_true (by kernel_rfl)) k0 hg lt0) (trodAll_cons_mk (shut_int Try.underlying3 w1) (trodAll_cons_mk (shut_int Try.underlying3 w2) trodAll_mk0))), rfl, hg.frame _, fun h => by cases h⟩

theorem proved : Rows.MeasureBoundsSaid :=
  OpenClaim.holds_of_wide 5 Try.f5 rfl rfl rfl rfl rfl rfl rfl ⟨rfl, rfl, rfl, rfl, rfl⟩ rfl rfl rfl rfl rfl (by kernel_rfl) Try.func5 (by kernel_rfl)
    (of_decide_eq_true (by kernel_rfl)) (by unfold Func.isWrapper; first | (rw [if_pos (by decide +kernel)]; kernel_rfl) | (rw [if_neg (by decide +kernel)]; exact ⟨rfl, rfl⟩))
    (fun os started H enc _ => lifted os started H enc)
#print axioms proved
end Go.Proofs.Ytkoaoejlbkdkgab.measureBounds
