/-
  For every two lists of runs the law RunsSame answers true and leaves its arguments as they were: they are alike just if they tell the same styles of as many bytes.
-/
import Derived.Test.YtdchpiihjjjpfabRows
import Derived.WalkKit
import Derived.ProofKit
import Derived.OpenShut
import Derived.SizedLaws
import Derived.ShutString
import Derived.ChangeOld
import Derived.Below
import Derived.Test.YtdchpiihjjjpfabLz
import Derived.Test.YtdchpiihjjjpfabKb
import Derived.Test.YtdchpiihjjjpfabKc
import Derived.Test.YtdchpiihjjjpfabKg
import Derived.Test.YtdchpiihjjjpfabZa
import Derived.Test.YtdchpiihjjjpfabZb
import Derived.Test.YtdchpiihjjjpfabZc
import Derived.Test.YtdchpiihjjjpfabZd
import Derived.Test.YtdchpiihjjjpfabZe
namespace Go.Proofs.Ytdchpiihjjjpfab.runsSame
open Go.ChangeShapes Go.WideShapes Go.ChangeAt Go.RowKit
open Go.ChangeMaps (open_string shut_string)
set_option linter.unusedVariables false
set_option linter.unusedSimpArgs false

theorem own : ownKnob Try.prog.godebug = none := by kernel_rfl
theorem laidOut : laidOutB Try.prog = true := by kernel_rfl

set_option maxRecDepth 100000 in
set_option maxHeartbeats 2000000 in
theorem walk (w : World) (ao0 : Option Addr) (n0 cap0 : Nat) (L0 Y0 : Nat → Int) (hn0 : n0 ≤ maxLen ∧ n0 ≤ cap0) (hF0 : P2At (fun _ => True) w ao0 n0 L0 Y0) (ao1 : Option Addr) (n1 cap1 : Nat) (L1 Y1 : Nat → Int) (hn1 : n1 ≤ maxLen ∧ n1 ≤ cap1) (hF1 : P2At (fun _ => True) w ao1 n1 L1 Y1) :
    Calls Try.prog 3 #[.slice ao0 n0 cap0, .slice ao1 n1 cap1] w fun e w' => e = .returned (.bool true) ∧ Below w.heap.size w w' := by
  by_cases c0 : 40 < n0 ∨ 40 < n1
  · clear hF0 hF1
    rcases (by omega : 40 < n0 ∨ (¬ 40 < n0 ∧ 40 < n1)) with h | ⟨h, h'⟩
    · have t1 : decide ((40 : Int) < (n0 : Int)) = true := decide_eq_true (by omega)
      clear c0 h
      go_enter Try.func3, Try.ntmps3
      go_wp2_with fail
      refine (awake_any _).mono ?_
      rintro e w1 ⟨rfl, hb1⟩
      have HB1 := boxed hb1
      clear hb1
      go_wp2
      go_ret
      exact ⟨rfl, HB1.out⟩
    · have t1 : decide ((40 : Int) < (n0 : Int)) = false := decide_eq_false (by omega)
      have t2 : decide ((40 : Int) < (n1 : Int)) = true := decide_eq_true (by omega)
      clear c0 h h'
      go_enter Try.func3, Try.ntmps3
      go_wp2_with fail
      refine (awake_any _).mono ?_
      rintro e w1 ⟨rfl, hb1⟩
      have HB1 := boxed hb1
      clear hb1
      go_wp2
      go_ret
      exact ⟨rfl, HB1.out⟩
  · have t1 : decide ((40 : Int) < (n0 : Int)) = false := decide_eq_false (by omega)
    have t2 : decide ((40 : Int) < (n1 : Int)) = false := decide_eq_false (by omega)
    have hz0 : n0 ≤ 40 := by omega
    have hz1 : n1 ≤ 40 := by omega
    have HF0 := boxed hF0
    have HF1 := boxed hF1
    clear c0 hF0 hF1
    go_enter Try.func3, Try.ntmps3
    go_wp2_with fail
    refine (awake_any _).mono ?_
    rintro e w1 ⟨rfl, hb1⟩
    have HB1 := boxed hb1
    clear hb1
    go_wp2_with fail
    go_loopw [5] (fun vi wr => ∃ i : Nat, i ≤ n0 ∧ vi = .int .i64 (i : Nat) ∧ Box (∀ j, j < i → L0 j ≤ 1099511627776) ∧ Box (Below w.heap.size w wr)) (fun vi _ => n0 - (intOf vi).toNat)
    case atStart => exact ⟨0, Nat.zero_le _, rfl, boxed (fun j hj => by omega), HB1⟩
    case round =>
      obtain ⟨i, hi, rfl, HS0, HB⟩ := hrel
      by_cases hlt : i < n0
      · obtain ⟨b, off, rfl, -⟩ := HF0.out.form (by omega)
        obtain ⟨e0, e1⟩ := (HF0.out.below HB.out).get i hlt
        by_cases cl : 1099511627776 < L0 i
        · have tl : decide ((1099511627776 : Int) < L0 i) = true := decide_eq_true cl
          generalize L0 i = l at *
          go_wp2
          go_ret
          exact ⟨rfl, HB.out⟩
        · have tl : decide ((1099511627776 : Int) < L0 i) = false := decide_eq_false cl
          have HS2 : Box (∀ j, j < i + 1 → L0 j ≤ 1099511627776) := boxed (fun j hj => by
            by_cases d : j = i
            · subst d; omega
            · exact HS0.out j (by omega))
          clear HS0 cl
          generalize L0 i = l at *
          go_wp2_with fail
          go_roundw
          case rel => exact ⟨i + 1, by omega, by go_num, HS2, HB⟩
          case measure => simp [intOf]; omega
      · obtain rfl : n0 = i := by omega
        have HB2 := HB
        clear HB
        go_wp2_with fail
        go_loopw [6] (fun vi wr => ∃ i : Nat, i ≤ n1 ∧ vi = .int .i64 (i : Nat) ∧ Box (∀ j, j < i → L1 j ≤ 1099511627776) ∧ Box (Below w.heap.size w wr)) (fun vi _ => n1 - (intOf vi).toNat)
        case atStart => exact ⟨0, Nat.zero_le _, rfl, boxed (fun j hj => by omega), HB2⟩
        case round =>
          obtain ⟨i, hi, rfl, HS1, HB⟩ := hrel
          by_cases hlt : i < n1
          · obtain ⟨b, off, rfl, -⟩ := HF1.out.form (by omega)
            obtain ⟨e0, e1⟩ := (HF1.out.below HB.out).get i hlt
            by_cases cl : 1099511627776 < L1 i
            · have tl : decide ((1099511627776 : Int) < L1 i) = true := decide_eq_true cl
              generalize L1 i = l at *
              go_wp2
              go_ret
              exact ⟨rfl, HB.out⟩
            · have tl : decide ((1099511627776 : Int) < L1 i) = false := decide_eq_false cl
              have HS2 : Box (∀ j, j < i + 1 → L1 j ≤ 1099511627776) := boxed (fun j hj => by
                by_cases d : j = i
                · subst d; omega
                · exact HS1.out j (by omega))
              clear HS1 cl
              generalize L1 i = l at *
              go_wp2_with fail
              go_roundw
              case rel => exact ⟨i + 1, by omega, by go_num, HS2, HB⟩
              case measure => simp [intOf]; omega
          · obtain rfl : n1 = i := by omega
            have hx0 := hn0
            have hx1 := hn1
            have HSM := boxed (psame_any wr ao0 ao1 n0 cap0 n1 cap1 L0 Y0 L1 Y1 (HF0.out.below HB.out) (HF1.out.below HB.out) hn0.2 hn1.2)
            rw [exs_exr, exs_exr] at HSM
            have HM0 := boxed (fun w' (hb : Below wr.heap.size wr w') => merged_any w' ao0 n0 cap0 L0 Y0 ((HF0.out.below HB.out).below hb) hz0 HS0.out)
            have HM1 := boxed (fun w' (hb : Below wr.heap.size wr w') => merged_any w' ao1 n1 cap1 L1 Y1 ((HF1.out.below HB.out).below hb) hz1 HS1.out)
            have HQ0 := boxed (enc_ok2 (s := exr L0 Y0 n0) (by have := exr_len2 L0 Y0 n0 n0 (Nat.le_refl _) HS0.out; omega) (exr_i64 L0 Y0 n0 n0 (Nat.le_refl _) (fun i hi => (HF0.out i hi).1.2)))
            have HQ1 := boxed (enc_ok2 (s := exr L1 Y1 n1) (by have := exr_len2 L1 Y1 n1 n1 (Nat.le_refl _) HS1.out; omega) (exr_i64 L1 Y1 n1 n1 (Nat.le_refl _) (fun i hi => (HF1.out i hi).1.2)))
            have hec := exr_count L0 Y0 n0
            go_wp2_with fail
            refine HSM.out.mono ?_
            rintro e w2 ⟨r1, rfl, hr1, hb2⟩
            have HD2 := boxed hb2
            clear hb2 HSM
            go_wp2_with fail
            refine (HM0.out _ HD2.out).mono ?_
            rintro e w3 ⟨v3, rfl, hv3, hb3⟩
            have HD3 := boxed (below_step HD2.out (Nat.le_refl _) hb3)
            have HV3 := boxed hv3
            clear hb3 hv3 HM0
            go_wp2_with fail
            refine (HM1.out _ HD3.out).mono ?_
            rintro e w4 ⟨v4, rfl, hv4, hb4⟩
            have HD4 := boxed (below_step HD3.out (Nat.le_refl _) hb4)
            have HV4 := boxed (And.intro (owns_below HV3.out hb4) hv4)
            clear hb4 hv4 HM1
            have HRS := boxed (rsame_runs _ _ _ _ _ _ _ HV4.out.1 HV4.out.2 HQ0.out HQ1.out (by omega))
            go_wp2_with fail
            refine HRS.out.mono ?_
            rintro e w5 ⟨r2, rfl, hr2, hb5⟩
            have HD5 := boxed (below_step HD4.out (Nat.le_refl _) hb5)
            obtain rfl : r1 = r2 := by
              have : r1 = true ↔ r2 = true := by
                rw [hr1, hr2]
                exact ⟨fun h => by rw [h], fun h => enc_inj h⟩
              cases r1 <;> cases r2 <;> simp_all
            clear hb5 hr1 hr2 HRS
            go_wp2
            go_ret
            exact ⟨by simp, below_step HB.out (Nat.le_refl _) HD5.out⟩

set_option maxRecDepth 100000 in
theorem lifted (os : Os) (started : os.Started) (H : Type) (enc : TypeId × Value → H) :
    ReturnsInHanded {} Try.checked os 3 .any (Rows.runsSameSpec.pre6 enc Try.prog Try.f3 Rows.runsSameRow.domain false) (Rows.runsSameSpec.post enc Try.prog Try.f3 false true false false) := by
  refine returnsInHanded_of_change_sized (C := Try.checked) own started (by kernel_rfl) Try.func3
    (ChangeSpec.witness6 (enc := enc) (C := Try.checked) false ⟨#[], #[.slice none 0 0, .slice none 0 0], []⟩ 8 (by kernel_rfl) (by kernel_rfl) (by kernel_rfl) (by kernel_rfl)) ?_
  intro W base args ds gs before hval0 hW hcnd hsz0 _
  have hval : ∀ (j : Nat) t v, Try.f3.params[j]? = some t → args[j]? = some v → Value.okWide Try.prog W .any base t v := hval0
  have hsz : (DataW.weightsEach Try.prog (Try.f3.params.toList ++ Rows.runsSameSpec.plain.varTypes Try.prog) (ds ++ gs)).all (· ≤ reachBytes) = true := hsz0
  have hW' := hW
  obtain ⟨p, q, hA0, hV, rfl, hfz, hnd⟩ := hW
  have hA : DataW.TrodAll enc Try.prog W 0 (fun _ => true) true Try.f3.params.toList args.toList ds p := hA0
  rw [Try.params3] at hA hval hsz
  obtain ⟨v0, vs0, d0, ds0, p0, q0, hargs, rfl, rfl, h0, r0⟩ := trodAll_cons hA
  obtain ⟨v1, vs1, d1, ds1, p1, q1, rfl, rfl, rfl, h1, r1⟩ := trodAll_cons r0
  obtain ⟨rfl, rfl, rfl⟩ := trodAll_nil r1
  obtain rfl : args = #[v0, v1] := by cases args; simp_all
  obtain ⟨rfl, rfl⟩ := trodVars_none hV
  obtain ⟨ao0, n0, cap0, rfl⟩ := okWide_slice Try.underlying22 (hval 0 22 v0 rfl rfl)
  have k0 := h0
  have lt0 : ∀ x ∈ p0, x.block < W.heap.size := by obtain ⟨m, hm⟩ := k0; exact DataW.trod_lt m _ _ _ hm
  obtain ⟨hn0, L0, Y0, hF0⟩ : (n0 ≤ maxLen ∧ n0 ≤ cap0) ∧ ∃ L Y, P2At (fun _ => True) W ao0 n0 L Y := by
    obtain ⟨fuel, hf⟩ := k0
    exact ⟨⟨(open_runs hf).1, open_cap hf⟩, (open_runs hf).2⟩
  obtain ⟨ao1, n1, cap1, rfl⟩ := okWide_slice Try.underlying22 (hval 1 22 v1 rfl rfl)
  have k1 := h1
  have lt1 : ∀ x ∈ p1, x.block < W.heap.size := by obtain ⟨m, hm⟩ := k1; exact DataW.trod_lt m _ _ _ hm
  obtain ⟨hn1, L1, Y1, hF1⟩ : (n1 ≤ maxLen ∧ n1 ≤ cap1) ∧ ∃ L Y, P2At (fun _ => True) W ao1 n1 L Y := by
    obtain ⟨fuel, hf⟩ := k1
    exact ⟨⟨(open_runs hf).1, open_cap hf⟩, (open_runs hf).2⟩
  clear hA0 hval0
  refine (walk W ao0 n0 cap0 L0 Y0 hn0 hF0 ao1 n1 cap1 L1 Y1 hn1 hF1).mono fun e W' ⟨he, hg⟩ => ?_
  subst he
  exact ⟨_, rfl, _, _, _, [], _, [], hW', trodAll_mk1 (shut_bool Try.underlying4 _), (trodAll_cons_mk (Below.trod laidOut (by kernel_rfl) (of_decide_eq_true (by kernel_rfl)) k0 hg lt0) (trodAll_cons_mk (Below.trod laidOut (by kernel_rfl) (of_decide_eq_true (by kernel_rfl)) k1 hg lt1) trodAll_mk0)), rfl, hg.frame _, fun h => by cases h⟩

theorem proved : Rows.RunsSameSaid :=
  OpenClaim.holds_of_wide 3 Try.f3 rfl rfl rfl rfl rfl rfl rfl ⟨rfl, rfl, rfl, rfl, rfl⟩ rfl rfl rfl rfl rfl (by kernel_rfl) Try.func3 (by kernel_rfl)
    (of_decide_eq_true (by kernel_rfl)) (by unfold Func.isWrapper; first | (rw [if_pos (by decide +kernel)]; kernel_rfl) | (rw [if_neg (by decide +kernel)]; exact ⟨rfl, rfl⟩))
    (fun os started H enc _ => lifted os started H enc)
#print axioms proved
end Go.Proofs.Ytdchpiihjjjpfab.runsSame
