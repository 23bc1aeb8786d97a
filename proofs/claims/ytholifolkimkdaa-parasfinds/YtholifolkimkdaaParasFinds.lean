/-
  For every text and every place the law ParasFinds answers true and leaves its arguments as they were: each byte's paragraph is told, and beyond there are none.
-/
import Derived.Test.YtholifolkimkdaaRows
import Derived.WalkKit
import Derived.ProofKit
import Derived.OpenShut
import Derived.SizedLaws
import Derived.ShutString
import Derived.ChangeOld
import Derived.Below
import Derived.Test.YtholifolkimkdaaGu
namespace Go.Proofs.Ytholifolkimkdaa.parasFinds
open Go.ChangeShapes Go.WideShapes Go.ChangeAt Go.RowKit
open Go.ChangeMaps (open_string shut_string)
set_option linter.unusedVariables false
set_option linter.unusedSimpArgs false

theorem own : ownKnob Try.prog.godebug = none := by kernel_rfl
theorem laidOut : laidOutB Try.prog = true := by kernel_rfl

set_option maxRecDepth 100000 in
set_option maxHeartbeats 6000000 in
theorem walk (w : World) (a0 : ByteArray) (w0 : a0.size ≤ maxLen) (a1 : Int) (w1 : (Lit.int .i64 a1).wf = true) :
    Calls Try.prog 5 #[.string a0, .int .i64 a1] w fun e w' => e = .returned (.bool true) ∧ Below w.heap.size w w' := by
  unfold maxLen at w0
  have hi1 := w1
  obtain ⟨hlo, hhi⟩ : -9223372036854775808 ≤ a1 ∧ a1 ≤ 9223372036854775807 := wf_i64 w1
  clear w1 hi1
  by_cases hbig : 3000 < a0.size
  · have t1 : decide ((3000 : Int) < (a0.size : Int)) = true := decide_eq_true (by omega)
    have t1' : decide (3000 < a0.size) = true := decide_eq_true hbig
    go_enter Try.func5, Try.ntmps5
    go_wp2_with fail
    refine (awake_any _).mono ?_
    rintro e w1 ⟨rfl, hb1⟩
    have HB1 := boxed hb1
    clear hb1
    go_wp2
    go_ret
    exact ⟨rfl, HB1.out⟩
  · have t1 : decide ((3000 : Int) < (a0.size : Int)) = false := decide_eq_false (by omega)
    have t1' : decide (3000 < a0.size) = false := decide_eq_false hbig
    have hll := ln_len a0
    have hspl := sp_len (ln a0)
    have hsum := sp_sum (ln a0)
    rw [hll] at hspl hsum
    have HCT := boxed (fun W => rcount_any a0 W (by omega))
    obtain ⟨NN, hNN⟩ : ∃ NN, (sp (ln a0)).length = NN := ⟨_, rfl⟩
    rw [hNN] at HCT hspl
    by_cases h0 : a1 < 0
    · have z0 : decide ((0 : Int) ≤ a1) = false := decide_eq_false (by omega)
      have z1 : decide (a1 < 0) = true := decide_eq_true h0
      replace hNN := boxed hNN
      replace hsum := boxed hsum
      go_enter Try.func5, Try.ntmps5
      go_wp2_with fail
      refine (awake_any _).mono ?_
      rintro e w1 ⟨rfl, hb1⟩
      have HB1 := boxed hb1
      clear hb1
      go_wp2_with fail
      refine (new_any a0 _ (by omega)).mono ?_
      rintro e w2 ⟨xb, ao, cap, rfl, -, hx, -, hb2⟩
      have HB2 := boxed (below_step HB1.out (Nat.le_refl _) hb2)
      have HX2 := boxed hx
      clear hb2 hx HB1
      go_wp2_with fail
      refine (find_out HX2.out a1 (by omega)).mono ?_
      rintro e w3 ⟨rfl, hb3⟩
      have HB3 := boxed (below_step HB2.out (Nat.le_refl _) hb3)
      have HX3 := boxed (HX2.out.below hb3)
      clear hb3 HX2 HB2
      go_wp2_with fail
      refine (span_out HX3.out a1 (by omega)).mono ?_
      rintro e w4 ⟨rfl, hb4⟩
      have HB4 := boxed (below_step HB3.out (Nat.le_refl _) hb4)
      have HX4 := boxed (HX3.out.below hb4)
      clear hb4 HX3 HB3
      go_wp2_with fail
      refine (HCT.out _).mono ?_
      rintro e w5 ⟨rfl, hb5⟩
      have HB5 := boxed (below_step HB4.out (Nat.le_refl _) hb5)
      clear hb5 HCT
      go_wp2
      go_ret
      exact ⟨rfl, HB5.out⟩
    · obtain ⟨k, rfl⟩ : ∃ k : Nat, a1 = k := ⟨a1.toNat, by omega⟩
      have z0 : decide ((0 : Int) ≤ (k : Int)) = true := decide_eq_true (by omega)
      have z1 : decide ((k : Int) < 0) = false := decide_eq_false (by omega)
      by_cases h1 : k < a0.size
      · have u1 : decide ((a0.size : Int) ≤ (k : Int)) = false := decide_eq_false (by omega)
        have u1' : decide (a0.size ≤ k) = false := decide_eq_false (by omega)
        obtain ⟨s1, s2, s3⟩ := fnd_spec (ln a0) k (by omega)
        have HFD := boxed (fun W => rfind_any a0 k W (by omega) (by omega))
        have HQ : Box (∀ q, Hd (sp (ln a0)) k q → q = fnd (ln a0) k) := boxed (fun q hq => (hd_fnd hq (by omega)).symm)
        have hbl := Bg_le (sp (ln a0)) (fnd (ln a0) k + 1)
        rw [sp_sum, hll] at hbl
        rw [hNN] at s1
        have HS2 : Box (∀ W xb ao cap, TxAt W xb ao cap (ln a0) → Calls Try.prog 17 #[.pointer (some ⟨xb, 0, none⟩), .int .i64 (fnd (ln a0) k : Nat)] W fun e w' => e = .returned (.tuple #[.int .i64 (Bg (sp (ln a0)) (fnd (ln a0) k) : Nat), .int .i64 (Bg (sp (ln a0)) (fnd (ln a0) k + 1) : Nat), .bool true]) ∧ Below W.heap.size W w') := boxed (fun W xb ao cap h => span_in h _ (by omega))
        have v1 : decide ((Bg (sp (ln a0)) (fnd (ln a0) k) : Nat) ≤ k) = true := decide_eq_true s2
        have v2 : decide (k < (Bg (sp (ln a0)) (fnd (ln a0) k + 1) : Nat)) = true := decide_eq_true s3
        have v1' : decide (((Bg (sp (ln a0)) (fnd (ln a0) k) : Nat) : Int) ≤ (k : Int)) = true := decide_eq_true (by omega)
        have v2' : decide ((k : Int) < ((Bg (sp (ln a0)) (fnd (ln a0) k + 1) : Nat) : Int)) = true := decide_eq_true (by omega)
        by_cases h2 : k < NN
        · have y1 : decide ((k : Int) < (NN : Int)) = true := decide_eq_true (by omega)
          have y1' : decide (k < NN) = true := decide_eq_true h2
          have hbk1 := Bg_le (sp (ln a0)) k
          have hbk2 := Bg_le (sp (ln a0)) (k + 1)
          rw [sp_sum, hll] at hbk1 hbk2
          go_enter Try.func5, Try.ntmps5
          go_wp2_with fail
          refine (awake_any _).mono ?_
          rintro e w1 ⟨rfl, hb1⟩
          have HB1 := boxed hb1
          clear hb1
          go_wp2_with fail
          refine (new_any a0 _ (by omega)).mono ?_
          rintro e w2 ⟨xb, ao, cap, rfl, -, hx, -, hb2⟩
          have HB2 := boxed (below_step HB1.out (Nat.le_refl _) hb2)
          have HX2 := boxed hx
          clear hb2 hx HB1
          go_wp2_with fail
          refine (find_in HX2.out k (by omega)).mono ?_
          rintro e w3 ⟨q, rfl, hq, hb3⟩
          obtain rfl := HQ.out q hq
          have HB3 := boxed (below_step HB2.out (Nat.le_refl _) hb3)
          have HX3 := boxed (HX2.out.below hb3)
          clear hb3 HX2 HB2 hq HQ
          generalize Bg (sp (ln a0)) (fnd (ln a0) k) = V1 at *
          generalize Bg (sp (ln a0)) (fnd (ln a0) k + 1) = V2 at *
          generalize fnd (ln a0) k = q at *
          go_wp2_with fail
          refine (span_in HX3.out k (by omega)).mono ?_
          rintro e w4 ⟨rfl, hb4⟩
          have HB4 := boxed (below_step HB3.out (Nat.le_refl _) hb4)
          have HX4 := boxed (HX3.out.below hb4)
          clear hb4 HX3 HB3
          generalize Bg (sp (ln a0)) k = V3 at *
          generalize Bg (sp (ln a0)) (k + 1) = V4 at *
          go_wp2_with fail
          refine (HCT.out _).mono ?_
          rintro e w5 ⟨rfl, hb5⟩
          have HB5 := boxed (below_step HB4.out (Nat.le_refl _) hb5)
          have hb5' := hb5
          clear hb5 HCT
          go_wp2_with fail
          refine (HS2.out _ _ _ _ (HX4.out.below hb5')).mono ?_
          rintro e w6 ⟨rfl, hb6⟩
          have HB6 := boxed (below_step HB5.out (Nat.le_refl _) hb6)
          clear hb6 hb5' HX4 HS2
          go_wp2_with (go_at_call 19; refine (HFD.out _).mono ?_; rintro e w7 ⟨rfl, hw'⟩; subst w7)
          go_ret
          exact ⟨rfl, HB6.out⟩
        · have y1 : decide ((k : Int) < (NN : Int)) = false := decide_eq_false (by omega)
          have y1' : decide (k < NN) = false := decide_eq_false h2
          go_enter Try.func5, Try.ntmps5
          go_wp2_with fail
          refine (awake_any _).mono ?_
          rintro e w1 ⟨rfl, hb1⟩
          have HB1 := boxed hb1
          clear hb1
          go_wp2_with fail
          refine (new_any a0 _ (by omega)).mono ?_
          rintro e w2 ⟨xb, ao, cap, rfl, -, hx, -, hb2⟩
          have HB2 := boxed (below_step HB1.out (Nat.le_refl _) hb2)
          have HX2 := boxed hx
          clear hb2 hx HB1
          go_wp2_with fail
          refine (find_in HX2.out k (by omega)).mono ?_
          rintro e w3 ⟨q, rfl, hq, hb3⟩
          obtain rfl := HQ.out q hq
          have HB3 := boxed (below_step HB2.out (Nat.le_refl _) hb3)
          have HX3 := boxed (HX2.out.below hb3)
          clear hb3 HX2 HB2 hq HQ
          generalize Bg (sp (ln a0)) (fnd (ln a0) k) = V1 at *
          generalize Bg (sp (ln a0)) (fnd (ln a0) k + 1) = V2 at *
          generalize fnd (ln a0) k = q at *
          go_wp2_with fail
          refine (span_out HX3.out (k : Nat) (by omega)).mono ?_
          rintro e w4 ⟨rfl, hb4⟩
          have HB4 := boxed (below_step HB3.out (Nat.le_refl _) hb4)
          have HX4 := boxed (HX3.out.below hb4)
          clear hb4 HX3 HB3
          go_wp2_with fail
          refine (HCT.out _).mono ?_
          rintro e w5 ⟨rfl, hb5⟩
          have HB5 := boxed (below_step HB4.out (Nat.le_refl _) hb5)
          have hb5' := hb5
          clear hb5 HCT
          go_wp2_with fail
          refine (HS2.out _ _ _ _ (HX4.out.below hb5')).mono ?_
          rintro e w6 ⟨rfl, hb6⟩
          have HB6 := boxed (below_step HB5.out (Nat.le_refl _) hb6)
          clear hb6 hb5' HX4 HS2
          go_wp2_with (go_at_call 19; refine (HFD.out _).mono ?_; rintro e w7 ⟨rfl, hw'⟩; subst w7)
          go_ret
          exact ⟨rfl, HB6.out⟩
      · have u1 : decide ((a0.size : Int) ≤ (k : Int)) = true := decide_eq_true (by omega)
        have u1' : decide (a0.size ≤ k) = true := decide_eq_true (by omega)
        have y1 : decide ((k : Int) < (NN : Int)) = false := decide_eq_false (by omega)
        have y1' : decide (k < NN) = false := decide_eq_false (by omega)
        go_enter Try.func5, Try.ntmps5
        go_wp2_with fail
        refine (awake_any _).mono ?_
        rintro e w1 ⟨rfl, hb1⟩
        have HB1 := boxed hb1
        clear hb1
        go_wp2_with fail
        refine (new_any a0 _ (by omega)).mono ?_
        rintro e w2 ⟨xb, ao, cap, rfl, -, hx, -, hb2⟩
        have HB2 := boxed (below_step HB1.out (Nat.le_refl _) hb2)
        have HX2 := boxed hx
        clear hb2 hx HB1
        go_wp2_with fail
        refine (find_out HX2.out (k : Nat) (by omega)).mono ?_
        rintro e w3 ⟨rfl, hb3⟩
        have HB3 := boxed (below_step HB2.out (Nat.le_refl _) hb3)
        have HX3 := boxed (HX2.out.below hb3)
        clear hb3 HX2 HB2
        go_wp2_with fail
        refine (span_out HX3.out (k : Nat) (by omega)).mono ?_
        rintro e w4 ⟨rfl, hb4⟩
        have HB4 := boxed (below_step HB3.out (Nat.le_refl _) hb4)
        have HX4 := boxed (HX3.out.below hb4)
        clear hb4 HX3 HB3
        go_wp2_with fail
        refine (HCT.out _).mono ?_
        rintro e w5 ⟨rfl, hb5⟩
        have HB5 := boxed (below_step HB4.out (Nat.le_refl _) hb5)
        clear hb5 HCT
        go_wp2
        go_ret
        exact ⟨rfl, HB5.out⟩

set_option maxRecDepth 100000 in
theorem lifted (os : Os) (started : os.Started) (H : Type) (enc : TypeId × Value → H) :
    ReturnsInHanded {} Try.checked os 5 .any (Rows.parasFindsSpec.pre6 enc Try.prog Try.f5 Rows.parasFindsRow.domain false) (Rows.parasFindsSpec.post enc Try.prog Try.f5 false true false false) := by
  refine returnsInHanded_of_change_sized (C := Try.checked) own started (by kernel_rfl) Try.func5
    (ChangeSpec.witness6 (enc := enc) (C := Try.checked) false ⟨#[], #[.string ByteArray.empty, .int .i64 0], []⟩ 8 (by kernel_rfl) (by kernel_rfl) (by kernel_rfl) (by kernel_rfl)) ?_
  intro W base args ds gs before hval0 hW hcnd hsz0 _
  have hval : ∀ (j : Nat) t v, Try.f5.params[j]? = some t → args[j]? = some v → Value.okWide Try.prog W .any base t v := hval0
  have hsz : (DataW.weightsEach Try.prog (Try.f5.params.toList ++ Rows.parasFindsSpec.plain.varTypes Try.prog) (ds ++ gs)).all (· ≤ reachBytes) = true := hsz0
  have hW' := hW
  obtain ⟨p, q, hA0, hV, rfl, hfz, hnd⟩ := hW
  have hA : DataW.TrodAll enc Try.prog W 0 (fun _ => true) true Try.f5.params.toList args.toList ds p := hA0
  rw [Try.params5] at hA hval hsz
  obtain ⟨v0, vs0, d0, ds0, p0, q0, hargs, rfl, rfl, h0, r0⟩ := trodAll_cons hA
  obtain ⟨v1, vs1, d1, ds1, p1, q1, rfl, rfl, rfl, h1, r1⟩ := trodAll_cons r0
  obtain ⟨rfl, rfl, rfl⟩ := trodAll_nil r1
  obtain rfl : args = #[v0, v1] := by cases args; simp_all
  obtain ⟨rfl, rfl⟩ := trodVars_none hV
  obtain ⟨a0, rfl, rfl, rfl, w0⟩ := open_string Try.underlying9 (hval 0 9 v0 rfl rfl) h0
  obtain ⟨a1, rfl, rfl, rfl, w1⟩ := open_int Try.underlying3 (hval 1 3 v1 rfl rfl) h1
  clear hA0 hval0
  refine (walk W a0 w0 a1 w1).mono fun e W' ⟨he, hg⟩ => ?_
  subst he
  exact ⟨_, rfl, _, _, _, [], _, [], hW', trodAll_mk1 (shut_bool Try.underlying4 _), (trodAll_cons_mk (shut_string Try.underlying9 w0) (trodAll_cons_mk (shut_int Try.underlying3 w1) trodAll_mk0)), rfl, hg.frame _, fun h => by cases h⟩

theorem proved : Rows.ParasFindsSaid :=
  OpenClaim.holds_of_wide 5 Try.f5 rfl rfl rfl rfl rfl rfl rfl ⟨rfl, rfl, rfl, rfl, rfl⟩ rfl rfl rfl rfl rfl (by kernel_rfl) Try.func5 (by kernel_rfl)
    (of_decide_eq_true (by kernel_rfl)) (by unfold Func.isWrapper; first | (rw [if_pos (by decide +kernel)]; kernel_rfl) | (rw [if_neg (by decide +kernel)]; exact ⟨rfl, rfl⟩))
    (fun os started H enc _ => lifted os started H enc)
#print axioms proved
end Go.Proofs.Ytholifolkimkdaa.parasFinds
