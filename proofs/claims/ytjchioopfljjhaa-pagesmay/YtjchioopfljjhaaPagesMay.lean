/-
  For every list of lines and all settings PagesMay answers true: where these may be, the program's May of each line is the document's, and its Units are 0 and each line ahead of which a page may end.
  No condition besides the statement's own.
-/
import Derived.Test.YtjchioopfljjhaaRows
import Derived.WalkKit
import Derived.ProofKit
import Derived.OpenShut
import Derived.SizedLaws
import Derived.ShutString
import Derived.ChangeOld
import Derived.Below
import Derived.Test.YtjchioopfljjhaaHj
import Derived.Test.YtjchioopfljjhaaHk
import Derived.Test.YtjchioopfljjhaaHl
import Derived.Test.YtjchioopfljjhaaHm
namespace Go.Proofs.Ytjchioopfljjhaa.pagesMay
open Go.ChangeShapes Go.WideShapes Go.ChangeAt Go.RowKit
open Go.ChangeMaps (open_string shut_string)
set_option linter.unusedVariables false
set_option linter.unusedSimpArgs false

theorem own : ownKnob Try.prog.godebug = none := by kernel_rfl
theorem laidOut : laidOutB Try.prog = true := by kernel_rfl

set_option maxRecDepth 100000 in
set_option maxHeartbeats 2000000 in
theorem walk (w : World) (ao0 : Option Addr) (n0 cap0 : Nat) (F0 : Nat → Slt) (hn0 : n0 ≤ maxLen ∧ n0 ≤ cap0) (hF0 : SltsAt (fun _ => True) w ao0 n0 F0) (s1 : Stg) (hs1 : I64 s1.t ∧ I64 s1.l ∧ I64 s1.a ∧ I64 s1.d ∧ I64 s1.z ∧ I64 s1.o ∧ I64 s1.i) :
    Calls Try.prog 7 #[.slice ao0 n0 cap0, s1.val] w fun e w' => e = .returned (.bool true) ∧ Below w.heap.size w w' := by
  obtain ⟨R, hR⟩ : ∃ R : Bool, (R = true ↔ Rts F0 n0 0) := by
    by_cases c : Rts F0 n0 0
    · exact ⟨true, by simp [c]⟩
    · exact ⟨false, by simp [c]⟩
  have hN : (n0 : Int) ≤ 9223372036854775807 := by have := hn0.1; unfold maxLen at this; omega
  obtain ⟨W0, hW0⟩ : ∃ W0, w.alloc (.cells #[.int .i64 s1.t, .int .i64 s1.l, .int .i64 s1.a, .int .i64 s1.d, .int .i64 s1.z, .int .i64 s1.o, .int .i64 s1.i] 24) = W0 := ⟨_, rfl⟩
  have hst := stc_new w s1
  have hB0 := (laid1 w (.cells #[.int .i64 s1.t, .int .i64 s1.l, .int .i64 s1.a, .int .i64 s1.d, .int .i64 s1.z, .int .i64 s1.o, .int .i64 s1.i] 24)).2.1
  rw [hW0] at hst hB0
  have HS := boxed hst
  have HB0 := boxed hB0
  have HW0 := boxed hW0
  have HH := boxed (hF0.below hB0)
  have HBx : Box (∀ W, Below W0.heap.size W0 W → Below w.heap.size w W) := boxed (fun W hb => below_step HB0.out (Nat.le_refl _) hb)
  have hg : I64 s1.o ∧ I64 s1.i := ⟨hs1.2.2.2.2.2.1, hs1.2.2.2.2.2.2⟩
  clear hst hB0 hW0
  by_cases hl : 200 < n0
  · have t1 : decide (200 < (n0 : Int)) = true := decide_eq_true (by omega)
    clear hF0 hn0 hR hs1 HH hl hg
    unfold Stg.val
    go_enter Try.func7, Try.ntmps7
    go_upto_region 1 with fail
    rw [HW0.out]
    go_wp2_with fail
    refine (awake_any _).mono ?_
    rintro e w1 ⟨rfl, hb1⟩
    have HB1 := boxed (HBx.out _ hb1)
    clear hb1
    go_wp2_with fail
    go_ret
    exact ⟨rfl, HB1.out⟩
  have hl2 : n0 ≤ 200 := by omega
  have t1 : decide (200 < (n0 : Int)) = false := decide_eq_false (by omega)
  have HRR := boxed (fun W (hb : Below W0.heap.size W0 W) => refright_any _ ao0 n0 cap0 F0 R hR W (HH.out.below hb) (by omega))
  by_cases hgo : R = true ∧ s1.o ≤ 1000 ∧ s1.i ≤ 1000
  case neg =>
    obtain ⟨A, hA⟩ : ∃ A : Bool, decide (1000 < s1.o) = A := ⟨_, rfl⟩
    have hBd : R = true → A = false → decide (1000 < s1.i) = true := fun q1 q2 => by
      have := of_decide_eq_false (hA.trans q2)
      exact decide_eq_true (by
        by_cases u : 1000 < s1.i
        · exact u
        · exact absurd ⟨q1, by omega, by omega⟩ hgo)
    have HBd := boxed hBd
    clear hF0 hn0 hR hs1 HH hl hg hgo hBd
    unfold Stg.val
    go_enter Try.func7, Try.ntmps7
    go_upto_region 1 with fail
    rw [HW0.out]
    go_wp2_with fail
    refine (awake_any _).mono ?_
    rintro e w1 ⟨rfl, hb1⟩
    have HB1 := boxed hb1
    clear hb1
    go_wp2_with fail
    refine (HRR.out _ HB1.out).mono ?_
    rintro e w2 ⟨rfl, hb2⟩
    have HB2 := boxed (below_step HB1.out (Nat.le_refl _) hb2)
    obtain ⟨c0, c1, c2, c3, c4, c5, c6⟩ := HS.out.below HB2.out
    clear hb2 HRR
    cases R with
    | false =>
      clear HBd
      go_wp2_with fail
      go_ret
      exact ⟨rfl, HBx.out _ HB2.out⟩
    | true =>
      cases A with
      | true =>
        clear HBd
        go_wp2_with fail
        go_ret
        exact ⟨rfl, HBx.out _ HB2.out⟩
      | false =>
        have t3 := HBd.out rfl rfl
        clear HBd
        go_wp2_with fail
        go_ret
        exact ⟨rfl, HBx.out _ HB2.out⟩
  obtain ⟨rfl, ho1, hi1⟩ := hgo
  have hRt := hR.1 rfl
  have t2 : decide (1000 < s1.o) = false := decide_eq_false (by omega)
  have t3 : decide (1000 < s1.i) = false := decide_eq_false (by omega)
  obtain ⟨i0, hi, hz0, hz1, hz2⟩ := info_parts info_int12
  obtain ⟨D, hDd⟩ : ∃ D : Dc, D = ⟨F0, n0, s1.o, s1.i, 0⟩ := ⟨_, rfl⟩
  have hok : ∀ j, j < n0 → SltOk n0 (F0 j) := fun j hj => hRt.ok j (Nat.zero_le _) hj
  have HCu : Box (∀ (k : Nat) W, k ≤ n0 → Below W0.heap.size W0 W → Calls Try.prog 20 #[.slice ao0 n0 cap0, .int .i64 (k : Nat), s1.val] W fun e w' => e = .returned (.bool (D.cut k)) ∧ Below W.heap.size W w') := boxed (fun k W hk hb => by
    subst hDd
    exact refcut_any _ s1 rfl rfl _ ao0 cap0 k W (HH.out.below hb) hok hk (by simp only; omega))
  have HUn : Box (∀ W, Below W0.heap.size W0 W → Calls Try.prog 26 #[.slice ao0 n0 cap0, s1.val] W fun e w' => ∃ ao' c', e = .returned (.slice ao' (D.pts n0).length c') ∧ NAt (fun b => W.heap.size ≤ b) w' ao' (D.pts n0) ∧ Below W.heap.size W w') := boxed (fun W hb => by
    subst hDd
    exact units_any _ s1 rfl rfl hg _ ao0 cap0 W (HH.out.below hb) (by simp only; omega))
  have HM := boxed (fun (j : Nat) (hj : j < n0) (W : World) => may_any (F0 j) s1 (hF0 j hj).1.2 hg W)
  have HRM := boxed (fun (j : Nat) (hj : j < n0) (W : World) => refmay_any n0 (by omega) (F0 j) s1 (hok j hj) W)
  clear hF0 hn0 hR hs1 hg hl hRt hok hDd ho1 hi1
  unfold Stg.val at *
  go_enter Try.func7, Try.ntmps7
  go_upto_region 1 with fail
  rw [HW0.out]
  go_wp2_with fail
  refine (awake_any _).mono ?_
  rintro e w1 ⟨rfl, hb1⟩
  have HB1 := boxed hb1
  clear hb1
  go_wp2_with fail
  refine (HRR.out _ HB1.out).mono ?_
  rintro e w2 ⟨rfl, hb2⟩
  have HB2 := boxed (below_step HB1.out (Nat.le_refl _) hb2)
  obtain ⟨c0, c1, c2, c3, c4, c5, c6⟩ := HS.out.below HB2.out
  clear hb2 HRR HB1
  have HS2 := boxed (HS.out.below HB2.out)
  have HH2 := boxed (HH.out.below HB2.out)
  have HBy : Box (∀ W, Below w2.heap.size w2 W → Below W0.heap.size W0 W) := boxed (fun W hb => below_step HB2.out (Nat.le_refl _) hb)
  clear HB2 HH HS
  go_wp2_with fail
  clear c0 c1 c2 c3 c4 c5 c6
  go_loopw [5, 6] (fun sv kv wr => ∃ k : Nat, k ≤ n0 ∧ kv = .int .i64 (k : Nat) ∧ Box (wr.ownsRow w2.heap.size 3 1 sv (D.pts k).length (ncs (D.pts k))) ∧ Box (Below w2.heap.size w2 wr)) (fun _ kv _ => n0 - (intOf kv).toNat)
  case atStart => exact ⟨0, Nat.zero_le _, rfl, boxed (World.ownsRow_nil _ _ _ _), boxed (Below.refl _ _)⟩
  case round =>
    obtain ⟨k, hk, rfl, HO, HB⟩ := hrel
    by_cases hlt : k < n0
    · have hlt2 : (k : Int) < (n0 : Int) := by omega
      have HLn := boxed (D.pts_len k)
      have HY := boxed (D.pts_yes k)
      have HNo := boxed (D.pts_no k)
      obtain ⟨b, off, rfl, hbw, -⟩ := HH2.out.form (by omega)
      obtain ⟨c0, c1, c2, c3⟩ := (HH2.out.below HB.out).get k hlt
      obtain ⟨s0, s1', s2, s3, s4, s5, s6⟩ := HS2.out.below HB.out
      have hm := fun W => HM.out k hlt W
      have hrm := fun W => HRM.out k hlt W
      have hcu := fun W hb => HCu.out k W hk hb
      have vc0 := cell_regrown c0
      have vc1 := cell_regrown c1
      have vc2 := cell_regrown c2
      have vc3 := cell_regrown c3
      have vs0 := cell_regrown s0
      have vs1 := cell_regrown s1'
      have vs2 := cell_regrown s2
      have vs3 := cell_regrown s3
      have vs4 := cell_regrown s4
      have vs5 := cell_regrown s5
      have vs6 := cell_regrown s6
      clear c0 c1 c2 c3 s0 s1' s2 s3 s4 s5 s6 HM HRM HCu
      generalize may (F0 k) s1.o s1.i = V at *
      generalize F0 k = x at *
      unfold Slt.val at *
      have CM : Box (∀ d os, Calls Try.prog 24 #[.agg #[.int .i64 x.h, .int .i64 x.i, .int .i64 x.c, .bool x.k], .agg #[.int .i64 s1.t, .int .i64 s1.l, .int .i64 s1.a, .int .i64 s1.d, .int .i64 s1.z, .int .i64 s1.o, .int .i64 s1.i]] (Go.Sort.grow (redrawn wr d) os) fun e w'' => e = .returned (.bool V) ∧ ∃ p : Regrown, w'' = Go.Sort.grow (redrawn wr p.d) p.os) := boxed (fun d os => Calls.regrown_of (hm _))
      have CR : Box (∀ d os, Calls Try.prog 25 #[.agg #[.int .i64 x.h, .int .i64 x.i, .int .i64 x.c, .bool x.k], .agg #[.int .i64 s1.t, .int .i64 s1.l, .int .i64 s1.a, .int .i64 s1.d, .int .i64 s1.z, .int .i64 s1.o, .int .i64 s1.i]] (Go.Sort.grow (redrawn wr d) os) fun e w'' => e = .returned (.bool V) ∧ ∃ p : Regrown, w'' = Go.Sort.grow (redrawn wr p.d) p.os) := boxed (fun d os => Calls.regrown_of (hrm _))
      have HBn : Box (∀ d os, Below w2.heap.size w2 (Go.Sort.grow (redrawn wr d) os)) := boxed (fun d os => below_step HB.out (Nat.le_refl _) (below_regrown wr d os))
      have HOn : Box (∀ d os, (Go.Sort.grow (redrawn wr d) os).ownsRow w2.heap.size 3 1 u5 (D.pts k).length (ncs (D.pts k))) := boxed (fun d os => owns_below HO.out (below_regrown wr d os))
      clear hm hrm HO
      go_wp2_with fail
      refine wp_region_quiet_below (by kernel_rfl) (by kernel_rfl) ?_
      repeat (go_big_quiet_step (first | (go_at_call 24; exact CM.out _ _) | (go_at_call 25; exact CR.out _ _)))
      refine wpQuiet_nil ?_
      intro _ hw'
      obtain ⟨⟨dq, osq⟩, hw''⟩ := hw'
      subst hw''
      have HB4 := boxed (HBn.out dq osq)
      have HO4 := boxed (HOn.out dq osq)
      clear HBn HOn CM CR vc0 vc1 vc2 vc3 vs0 vs1 vs2 vs3 vs4 vs5 vs6
      generalize Go.Sort.grow (redrawn wr dq) osq = w4 at *
      have tv : (V != V) = false := by cases V <;> rfl
      have tw : (V == V) = true := by cases V <;> rfl
      obtain ⟨c0, c1, c2, c3, c4, c5, c6⟩ := HS2.out.below HB4.out
      have hll := HLn.out
      by_cases h0 : k = 0
      · have HI := boxed (HY.out (.inl h0))
        subst h0
        have hown4 := HO4.out
        have hz4 := HB4.out.size
        have hl0 : (D.pts 0).length = 0 := rfl
        rw [hl0] at hown4
        clear HY HNo hl0 hcu hll
        focus
          go_wp2_with (first | (at_builtin; refine wpList_append_own _ rfl _ _ 26 rfl w2.heap.size 3 i0 _ 1 8 Try.underlying26 hi hz0 hz1 hz2 rfl (by decide) _ _ _ rfl (hown4.alloc _) ⟨w4.heap.size, 0, none⟩ 1 1 [.int .i64 (0 : Int)] rfl rfl ?c1 ?c2 ?c3 ?c4 ?c5 ?_))
          case c1 =>
            intro j u hj
            match j, hj with
            | 0, hj => simp at hj; subst hj; simp [Addr.add]
          case c2 => intro u hu; simp at hu; subst hu; rfl
          case c3 => unfold maxLen; omega
          case c4 => omega
          case c5 => simp; omega
          intro v' w6 hown6 hgrow6 _
          have HO6 : Box (w6.ownsRow w2.heap.size 3 1 v' (D.pts (0 + 1)).length (ncs (D.pts (0 + 1)))) := boxed (by rw [HI.out, ncs_app, List.length_append]; exact hown6)
          have HG6 := boxed (HB4.out.trans (grown_any hown4 hz4 hgrow6))
          clear hown6 hgrow6 hown4 c0 c1 c2 c3 c4 c5 c6
          go_wp2_with fail
          go_roundw
          case rel => exact ⟨0 + 1, by omega, by go_num, HO6, HG6⟩
          case measure => simp [intOf]; omega
      · have t5 : ((k : Int) == 0) = false := by rw [beq_eq_false_iff_ne]; omega
        have hc1 := hcu w4 (HBy.out _ HB4.out)
        clear hcu
        generalize hC : D.cut k = C at *
        clear hC
        go_wp2_with fail
        refine hc1.mono ?_
        rintro e w5 ⟨rfl, hb5⟩
        have HB5 := boxed (below_step HB4.out (Nat.le_refl _) hb5)
        have HO5 := boxed (owns_below HO4.out hb5)
        clear hb5 hc1 c0 c1 c2 c3 c4 c5 c6 HO4 HB4
        cases C with
        | false =>
          have HI := boxed (HNo.out h0 rfl)
          clear HY HNo
          go_wp2_with fail
          go_roundw
          case rel => exact ⟨k + 1, by omega, by go_num, boxed (by rw [HI.out]; exact HO5.out), HB5⟩
          case measure => simp [intOf]; omega
        | true =>
          have HI := boxed (HY.out (.inr rfl))
          have hown4 := HO5.out
          have hz4 := HB5.out.size
          clear HY HNo
          generalize hLe : (D.pts k).length = ll at *
          have hLe2 := boxed hLe
          clear hLe
          go_wp2_with (first | (at_builtin; refine wpList_append_own _ rfl _ _ 26 rfl w2.heap.size 3 i0 _ 1 8 Try.underlying26 hi hz0 hz1 hz2 rfl (by decide) _ _ _ rfl (hown4.alloc _) ⟨w5.heap.size, 0, none⟩ 1 1 [.int .i64 ((k : Nat) : Int)] rfl rfl ?c1 ?c2 ?c3 ?c4 ?c5 ?_))
          case c1 =>
            intro j u hj
            match j, hj with
            | 0, hj => simp at hj; subst hj; simp [Addr.add]
          case c2 => intro u hu; simp at hu; subst hu; rfl
          case c3 => unfold maxLen; omega
          case c4 => omega
          case c5 => simp; omega
          intro v' w6 hown6 hgrow6 _
          have HO6 : Box (w6.ownsRow w2.heap.size 3 1 v' (D.pts (k + 1)).length (ncs (D.pts (k + 1)))) := boxed (by rw [HI.out, ncs_app, List.length_append, hLe2.out]; exact hown6)
          have HG6 := boxed (HB5.out.trans (grown_any hown4 hz4 hgrow6))
          clear hown6 hgrow6 hown4
          go_wp2_with fail
          go_roundw
          case rel => exact ⟨k + 1, by omega, by go_num, HO6, HG6⟩
          case measure => simp [intOf]; omega
    · obtain rfl : k = n0 := by omega
      obtain ⟨ao', c', rfl⟩ := own_shape HO.out
      have HF := boxed (own_nat HO.out rfl)
      obtain ⟨c0, c1, c2, c3, c4, c5, c6⟩ := HS2.out.below HB.out
      have HU1 := boxed (HUn.out wr (HBy.out _ HB.out))
      have HLn := boxed (D.pts_len k)
      have HLt := boxed (D.pts_lt k)
      have t4 : decide ((k : Int) < (k : Int)) = false := decide_eq_false (by omega)
      clear HO HUn
      go_wp2_with fail
      refine HU1.out.mono ?_
      rintro e w5 ⟨a5, k5, rfl, hN5, hb5⟩
      have HB5 := boxed (below_step HB.out (Nat.le_refl _) hb5)
      have hsm := same_yes _ _ a5 ao' k5 c' (D.pts k) w5 hN5 (HF.out.below hb5) (by have := HLn.out; omega) (by
        intro i hi
        have := HLt.out ((D.pts k).getD i 0) (by simp [List.getD, hi])
        omega)
      clear hb5 hN5 HF c0 c1 c2 c3 c4 c5 c6
      go_wp2_with fail
      refine hsm.mono ?_
      rintro e w6 ⟨rfl, hb6⟩
      have HB6 := boxed (HBx.out _ (HBy.out _ (below_step HB5.out (Nat.le_refl _) hb6)))
      clear hb6 hsm
      go_wp2_with fail
      go_ret
      exact ⟨rfl, HB6.out⟩

set_option maxRecDepth 100000 in
theorem lifted (os : Os) (started : os.Started) (H : Type) (enc : TypeId × Value → H) :
    ReturnsInHanded {} Try.checked os 7 .any (Rows.pagesMaySpec.pre6 enc Try.prog Try.f7 Rows.pagesMayRow.domain false) (Rows.pagesMaySpec.post enc Try.prog Try.f7 false true false false) := by
  refine returnsInHanded_of_change_sized (C := Try.checked) own started (by kernel_rfl) Try.func7
    (ChangeSpec.witness6 (enc := enc) (C := Try.checked) false ⟨#[], #[.slice none 0 0, .agg #[.int .i64 0, .int .i64 0, .int .i64 0, .int .i64 0, .int .i64 0, .int .i64 0, .int .i64 0]], []⟩ 8 (by kernel_rfl) (by kernel_rfl) (by kernel_rfl) (by kernel_rfl)) ?_
  intro W base args ds gs before hval0 hW hcnd hsz0 _
  have hval : ∀ (j : Nat) t v, Try.f7.params[j]? = some t → args[j]? = some v → Value.okWide Try.prog W .any base t v := hval0
  have hsz : (DataW.weightsEach Try.prog (Try.f7.params.toList ++ Rows.pagesMaySpec.plain.varTypes Try.prog) (ds ++ gs)).all (· ≤ reachBytes) = true := hsz0
  have hW' := hW
  obtain ⟨p, q, hA0, hV, rfl, hfz, hnd⟩ := hW
  have hA : DataW.TrodAll enc Try.prog W 0 (fun _ => true) true Try.f7.params.toList args.toList ds p := hA0
  rw [Try.params7] at hA hval hsz
  obtain ⟨v0, vs0, d0, ds0, p0, q0, hargs, rfl, rfl, h0, r0⟩ := trodAll_cons hA
  obtain ⟨v1, vs1, d1, ds1, p1, q1, rfl, rfl, rfl, h1, r1⟩ := trodAll_cons r0
  obtain ⟨rfl, rfl, rfl⟩ := trodAll_nil r1
  obtain rfl : args = #[v0, v1] := by cases args; simp_all
  obtain ⟨rfl, rfl⟩ := trodVars_none hV
  obtain ⟨ao0, n0, cap0, rfl⟩ := okWide_slice Try.underlying22 (hval 0 22 v0 rfl rfl)
  have k0 := h0
  have lt0 : ∀ x ∈ p0, x.block < W.heap.size := by obtain ⟨m, hm⟩ := k0; exact DataW.trod_lt m _ _ _ hm
  obtain ⟨hn0, F0, hF0⟩ : (n0 ≤ maxLen ∧ n0 ≤ cap0) ∧ ∃ F, SltsAt (fun _ => True) W ao0 n0 F := by
    obtain ⟨fuel, hf⟩ := k0
    exact open_slots hf
  have k1 := h1
  have lt1 : ∀ x ∈ p1, x.block < W.heap.size := by obtain ⟨m, hm⟩ := k1; exact DataW.trod_lt m _ _ _ hm
  obtain ⟨s1, rfl, hs1⟩ : ∃ x : Stg, v1 = x.val ∧ I64 x.t ∧ I64 x.l ∧ I64 x.a ∧ I64 x.d ∧ I64 x.z ∧ I64 x.o ∧ I64 x.i := by
    obtain ⟨fuel, hf⟩ := k1
    exact sett_value hf
  clear hA0 hval0
  refine (walk W ao0 n0 cap0 F0 hn0 hF0 s1 hs1).mono fun e W' ⟨he, hg⟩ => ?_
  subst he
  exact ⟨_, rfl, _, _, _, [], _, [], hW', trodAll_mk1 (shut_bool Try.underlying4 _), (trodAll_cons_mk (Below.trod laidOut (by kernel_rfl) (of_decide_eq_true (by kernel_rfl)) k0 hg lt0) (trodAll_cons_mk (Below.trod laidOut (by kernel_rfl) (of_decide_eq_true (by kernel_rfl)) k1 hg lt1) trodAll_mk0)), rfl, hg.frame _, fun h => by cases h⟩

theorem proved : Rows.PagesMaySaid :=
  OpenClaim.holds_of_wide 7 Try.f7 rfl rfl rfl rfl rfl rfl rfl ⟨rfl, rfl, rfl, rfl, rfl⟩ rfl rfl rfl rfl rfl (by kernel_rfl) Try.func7 (by kernel_rfl)
    (of_decide_eq_true (by kernel_rfl)) (by unfold Func.isWrapper; first | (rw [if_pos (by decide +kernel)]; kernel_rfl) | (rw [if_neg (by decide +kernel)]; exact ⟨rfl, rfl⟩))
    (fun os started H enc _ => lifted os started H enc)
#print axioms proved
end Go.Proofs.Ytjchioopfljjhaa.pagesMay
