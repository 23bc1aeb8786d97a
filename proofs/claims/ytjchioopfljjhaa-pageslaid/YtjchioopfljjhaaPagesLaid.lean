/-
  For every list of lines, height and settings PagesLaid answers true: the program's Paginate refuses just what the document refuses, with its errors in their order, and else tells where the document's pages begin.
  No condition besides the statement's own.
-/
import Derived.Test.YtjchioopfljjhaaRows
import Derived.WalkKit
import Derived.ProofKit
import Derived.OpenShut
import Derived.SizedLaws
import Derived.ShutString
import Derived.ChangeOld
import Derived.Below
import Derived.Test.YtjchioopfljjhaaHj
import Derived.Test.YtjchioopfljjhaaHk
import Derived.Test.YtjchioopfljjhaaHl
import Derived.Test.YtjchioopfljjhaaHi
namespace Go.Proofs.Ytjchioopfljjhaa.pagesLaid
open Go.ChangeShapes Go.WideShapes Go.ChangeAt Go.RowKit
open Go.ChangeMaps (open_string shut_string)
set_option linter.unusedVariables false
set_option linter.unusedSimpArgs false

theorem own : ownKnob Try.prog.godebug = none := by kernel_rfl
theorem laidOut : laidOutB Try.prog = true := by kernel_rfl

set_option maxRecDepth 100000 in
set_option maxHeartbeats 2000000 in
theorem walk (w : World) (ao0 : Option Addr) (n0 cap0 : Nat) (F0 : Nat → Slt) (hn0 : n0 ≤ maxLen ∧ n0 ≤ cap0) (hF0 : SltsAt (fun _ => True) w ao0 n0 F0) (a1 : Int) (w1 : (Lit.int .i64 a1).wf = true) (s2 : Stg) (hs2 : I64 s2.t ∧ I64 s2.l ∧ I64 s2.a ∧ I64 s2.d ∧ I64 s2.z ∧ I64 s2.o ∧ I64 s2.i) :
    Calls Try.prog 3 #[.slice ao0 n0 cap0, .int .i64 a1, s2.val] w fun e w' => e = .returned (.bool true) ∧ Below w.heap.size w w' := by
  obtain ⟨R, hR⟩ : ∃ R : Bool, (R = true ↔ Rts F0 n0 0) := by
    by_cases c : Rts F0 n0 0
    · exact ⟨true, by simp [c]⟩
    · exact ⟨false, by simp [c]⟩
  have hN : (n0 : Int) ≤ 9223372036854775807 := by have := hn0.1; unfold maxLen at this; omega
  obtain ⟨W0, hW0⟩ : ∃ W0, w.alloc (.cells #[.int .i64 s2.t, .int .i64 s2.l, .int .i64 s2.a, .int .i64 s2.d, .int .i64 s2.z, .int .i64 s2.o, .int .i64 s2.i] 24) = W0 := ⟨_, rfl⟩
  have hst := stc_new w s2
  have hB0 := (laid1 w (.cells #[.int .i64 s2.t, .int .i64 s2.l, .int .i64 s2.a, .int .i64 s2.d, .int .i64 s2.z, .int .i64 s2.o, .int .i64 s2.i] 24)).2.1
  rw [hW0] at hst hB0
  have HS := boxed hst
  have HB0 := boxed hB0
  have HW0 := boxed hW0
  have HH := boxed (hF0.below hB0)
  have HBx : Box (∀ W, Below W0.heap.size W0 W → Below w.heap.size w W) := boxed (fun W hb => below_step HB0.out (Nat.le_refl _) hb)
  clear hst hB0 hW0
  by_cases hl : 200 < n0
  · have t1 : decide (200 < (n0 : Int)) = true := decide_eq_true (by omega)
    clear hF0 hn0 hR hs2 HH hl
    unfold Stg.val
    go_enter Try.func3, Try.ntmps3
    go_upto_region 1 with fail
    rw [HW0.out]
    go_wp2_with fail
    refine (awake_any _).mono ?_
    rintro e w1 ⟨rfl, hb1⟩
    have HB1 := boxed (HBx.out _ hb1)
    clear hb1
    go_wp2_with fail
    go_ret
    exact ⟨rfl, HB1.out⟩
  have hl2 : n0 ≤ 200 := by omega
  have t1 : decide (200 < (n0 : Int)) = false := decide_eq_false (by omega)
  have HC := boxed (fun W => pcheck_any a1 s2 W)
  have HRC := boxed (fun W => refcheck_any a1 s2 W)
  have HRR := boxed (fun W (hb : Below W0.heap.size W0 W) => refright_any _ ao0 n0 cap0 F0 R hR W (HH.out.below hb) (by omega))
  have HPR := boxed (fun W (hb : Below W0.heap.size W0 W) => right_any _ ao0 n0 cap0 F0 R hR W (HH.out.below hb) (by omega) hn0.2)
  by_cases hE : ckE a1 s2 = 0
  case neg =>
    have HP := boxed (fun W => pag_bad a1 s2 hE ao0 n0 cap0 W)
    by_cases q : 1 ≤ a1 ∧ a1 ≤ 1073741824
    · obtain ⟨q1, q2⟩ := q
      have e8 : ckE a1 s2 = 80 := by
        have h := hE
        unfold ckE at h ⊢
        rw [if_pos (And.intro q1 q2)] at h ⊢
        split
        · next q3 => rw [if_pos q3] at h; exact absurd rfl h
        · rfl
      have e9 : ckB a1 s2 = false := by
        cases c : ckB a1 s2 with
        | false => rfl
        | true => exact absurd (((trB_iff 0 true a1 s2).1 (by simp [trB, c])).2.2) hE
      rw [e8] at HP HC
      rw [e9] at HRC
      clear e8 e9 hE HRR HPR hR hF0 hs2 hn0 HH
      unfold Stg.val at *
      go_enter Try.func3, Try.ntmps3
      go_upto_region 1 with fail
      rw [HW0.out]
      go_wp2_with fail
      refine (awake_any _).mono ?_
      rintro e w1 ⟨rfl, hb1⟩
      obtain ⟨c0, c1, c2, c3, c4, c5, c6⟩ := HS.out.below hb1
      have HB1 := boxed hb1
      clear hb1
      go_wp2_with fail
      refine (HP.out _).mono ?_
      rintro e w2 ⟨rfl, hb2⟩
      have HB2 := boxed (below_step HB1.out (Nat.le_refl _) hb2)
      clear hb2 c0 c1 c2 c3 c4 c5 c6
      obtain ⟨c0, c1, c2, c3, c4, c5, c6⟩ := HS.out.below HB2.out
      go_wp2_with fail
      refine (HRC.out _).mono ?_
      rintro e w3 ⟨rfl, hb3⟩
      have HB3 := boxed (below_step HB2.out (Nat.le_refl _) hb3)
      clear hb3 c0 c1 c2 c3 c4 c5 c6
      obtain ⟨c0, c1, c2, c3, c4, c5, c6⟩ := HS.out.below HB3.out
      go_wp2_with fail
      refine (HC.out _).mono ?_
      rintro e w4 ⟨rfl, hb4⟩
      have HB4 := boxed (HBx.out _ (below_step HB3.out (Nat.le_refl _) hb4))
      clear hb4 c0 c1 c2 c3 c4 c5 c6
      go_wp2_with fail
      go_ret
      exact ⟨rfl, HB4.out⟩
    · have e8 : ckE a1 s2 = 41 := by unfold ckE; rw [if_neg q]
      rw [e8] at HP HC
      have tq : ∃ B : Bool, decide (a1 < 1) = B ∧ (B = false → decide (1073741824 < a1) = true) := by
        by_cases u : a1 < 1
        · exact ⟨true, decide_eq_true u, fun e => by cases e⟩
        · exact ⟨false, decide_eq_false u, fun _ => decide_eq_true (by omega)⟩
      obtain ⟨B, t2, t3⟩ := tq
      clear e8 hE HRR HPR hR hF0 hs2 hn0 q HRC HH
      unfold Stg.val at *
      cases B with
      | true =>
        clear t3
        go_enter Try.func3, Try.ntmps3
        go_upto_region 1 with fail
        rw [HW0.out]
        go_wp2_with fail
        refine (awake_any _).mono ?_
        rintro e w1 ⟨rfl, hb1⟩
        obtain ⟨c0, c1, c2, c3, c4, c5, c6⟩ := HS.out.below hb1
        have HB1 := boxed hb1
        clear hb1
        go_wp2_with fail
        refine (HP.out _).mono ?_
        rintro e w2 ⟨rfl, hb2⟩
        have HB2 := boxed (below_step HB1.out (Nat.le_refl _) hb2)
        clear hb2 c0 c1 c2 c3 c4 c5 c6
        obtain ⟨c0, c1, c2, c3, c4, c5, c6⟩ := HS.out.below HB2.out
        go_wp2_with fail
        refine (HC.out _).mono ?_
        rintro e w4 ⟨rfl, hb4⟩
        have HB4 := boxed (HBx.out _ (below_step HB2.out (Nat.le_refl _) hb4))
        clear hb4 c0 c1 c2 c3 c4 c5 c6
        go_wp2_with fail
        go_ret
        exact ⟨rfl, HB4.out⟩
      | false =>
        have t4 := t3 rfl
        clear t3
        go_enter Try.func3, Try.ntmps3
        go_upto_region 1 with fail
        rw [HW0.out]
        go_wp2_with fail
        refine (awake_any _).mono ?_
        rintro e w1 ⟨rfl, hb1⟩
        obtain ⟨c0, c1, c2, c3, c4, c5, c6⟩ := HS.out.below hb1
        have HB1 := boxed hb1
        clear hb1
        go_wp2_with fail
        refine (HP.out _).mono ?_
        rintro e w2 ⟨rfl, hb2⟩
        have HB2 := boxed (below_step HB1.out (Nat.le_refl _) hb2)
        clear hb2 c0 c1 c2 c3 c4 c5 c6
        obtain ⟨c0, c1, c2, c3, c4, c5, c6⟩ := HS.out.below HB2.out
        go_wp2_with fail
        refine (HC.out _).mono ?_
        rintro e w4 ⟨rfl, hb4⟩
        have HB4 := boxed (HBx.out _ (below_step HB2.out (Nat.le_refl _) hb4))
        clear hb4 c0 c1 c2 c3 c4 c5 c6
        go_wp2_with fail
        go_ret
        exact ⟨rfl, HB4.out⟩
  obtain ⟨⟨q1, q2⟩, hok⟩ := ck_ok hE
  have e9 : ckB a1 s2 = true := by unfold ckB; rw [hok]; simp; omega
  rw [e9] at HRC
  clear e9 hok
  cases R with
  | false =>
    have HP := boxed (fun W (hb : Below W0.heap.size W0 W) => pag_wrong a1 s2 hE _ ao0 n0 cap0 F0 (fun c => by have := hR.2 c; cases this) W (HH.out.below hb) (by omega) hn0.2)
    simp only [Bool.false_eq_true, if_false] at HPR
    clear hE hR hF0 hs2 hn0 HC HH
    unfold Stg.val at *
    go_enter Try.func3, Try.ntmps3
    go_upto_region 1 with fail
    rw [HW0.out]
    go_wp2_with fail
    refine (awake_any _).mono ?_
    rintro e w1 ⟨rfl, hb1⟩
    obtain ⟨c0, c1, c2, c3, c4, c5, c6⟩ := HS.out.below hb1
    have HB1 := boxed hb1
    clear hb1
    go_wp2_with fail
    refine (HP.out _ HB1.out).mono ?_
    rintro e w2 ⟨rfl, hb2⟩
    have HB2 := boxed (below_step HB1.out (Nat.le_refl _) hb2)
    clear hb2 c0 c1 c2 c3 c4 c5 c6
    obtain ⟨c0, c1, c2, c3, c4, c5, c6⟩ := HS.out.below HB2.out
    go_wp2_with fail
    refine (HRC.out _).mono ?_
    rintro e w3 ⟨rfl, hb3⟩
    have HB3 := boxed (below_step HB2.out (Nat.le_refl _) hb3)
    clear hb3 c0 c1 c2 c3 c4 c5 c6
    go_wp2_with fail
    refine (HRR.out _ HB3.out).mono ?_
    rintro e w4 ⟨rfl, hb4⟩
    have HB4 := boxed (below_step HB3.out (Nat.le_refl _) hb4)
    clear hb4
    go_wp2_with fail
    refine (HPR.out _ HB4.out).mono ?_
    rintro e w5 ⟨rfl, hb5⟩
    have HB5 := boxed (HBx.out _ (below_step HB4.out (Nat.le_refl _) hb5))
    clear hb5
    go_wp2_with fail
    go_ret
    exact ⟨rfl, HB5.out⟩
  | true =>
    have hRt := hR.1 rfl
    have hD := dcok_of (F := F0) (n := n0) (H := a1) (g := s2) hE hRt hl2
    obtain ⟨D, hDd⟩ : ∃ D : Dc, D = ⟨F0, n0, s2.o, s2.i, a1⟩ := ⟨_, rfl⟩
    rw [← hDd] at hD
    have HP : Box (∀ W, Below W0.heap.size W0 W → Calls Try.prog 10 #[.slice ao0 n0 cap0, .int .i64 a1, s2.val] W fun e w' => ∃ J ao' c', e = .returned (.tuple #[.slice ao' J c', .int .i64 0]) ∧ D.Pgs J ∧ NAt (fun b => W.heap.size ≤ b) w' ao' (D.its J) ∧ Below W.heap.size W w') := boxed (fun W hb => by
      subst hDd
      exact pag_ok _ s2 hD hE hRt _ ao0 cap0 W (HH.out.below hb) hn0.2)
    have HQ : Box (∀ W, Below W0.heap.size W0 W → Calls Try.prog 16 #[.slice ao0 n0 cap0, .int .i64 a1, s2.val] W fun e w' => ∃ J ao' c', e = .returned (.slice ao' J c') ∧ D.Pgs J ∧ NAt (fun b => W.heap.size ≤ b) w' ao' (D.its J) ∧ Below W.heap.size W w') := boxed (fun W hb => by
      subst hDd
      exact refpag_any _ s2 hD _ ao0 cap0 W (HH.out.below hb))
    have HDn : Box (D.n ≤ 200) := boxed (by rw [hDd]; exact hl2)
    simp only [if_true] at HPR
    clear hE hR hF0 hs2 hn0 HC HH hRt hD hDd
    unfold Stg.val at *
    go_enter Try.func3, Try.ntmps3
    go_upto_region 1 with fail
    rw [HW0.out]
    go_wp2_with fail
    refine (awake_any _).mono ?_
    rintro e w1 ⟨rfl, hb1⟩
    obtain ⟨c0, c1, c2, c3, c4, c5, c6⟩ := HS.out.below hb1
    have HB1 := boxed hb1
    clear hb1
    go_wp2_with fail
    refine (HP.out _ HB1.out).mono ?_
    rintro e w2 ⟨J, a2, k2, rfl, hJ, hN2, hb2⟩
    have HB2 := boxed (below_step HB1.out (Nat.le_refl _) hb2)
    have HN2 := boxed hN2
    have HJ := boxed hJ
    clear hb2 c0 c1 c2 c3 c4 c5 c6 hN2 hJ HP
    obtain ⟨c0, c1, c2, c3, c4, c5, c6⟩ := HS.out.below HB2.out
    go_wp2_with fail
    refine (HRC.out _).mono ?_
    rintro e w3 ⟨rfl, hb3⟩
    have HB3 := boxed (below_step HB2.out (Nat.le_refl _) hb3)
    have HN3 := boxed (HN2.out.below hb3)
    clear hb3 c0 c1 c2 c3 c4 c5 c6 HN2
    go_wp2_with fail
    refine (HRR.out _ HB3.out).mono ?_
    rintro e w4 ⟨rfl, hb4⟩
    have HB4 := boxed (below_step HB3.out (Nat.le_refl _) hb4)
    have HN4 := boxed (HN3.out.below hb4)
    clear hb4 HN3
    go_wp2_with fail
    refine (HPR.out _ HB4.out).mono ?_
    rintro e w5 ⟨rfl, hb5⟩
    have HB5 := boxed (below_step HB4.out (Nat.le_refl _) hb5)
    have HN5 := boxed (HN4.out.below hb5)
    clear hb5 HN4
    obtain ⟨c0, c1, c2, c3, c4, c5, c6⟩ := HS.out.below HB5.out
    go_wp2_with fail
    refine (HQ.out _ HB5.out).mono ?_
    rintro e w6 ⟨J', a6, k6, rfl, hJ', hN6, hb6⟩
    obtain rfl := D.pgs_one HJ.out hJ'
    have HB6 := boxed (below_step HB5.out (Nat.le_refl _) hb6)
    have hsm := same_yes _ _ a2 a6 k2 k6 (D.its J) w6 (HN5.out.below hb6) hN6 (by rw [D.its_len]; have := D.it_ge J HJ.out.1; have := HJ.out.2; have := HDn.out; omega) (by
      intro i hi
      rw [D.its_len] at hi
      rw [D.its_get J i hi]
      have := HJ.out.1 i hi
      have := HDn.out
      omega)
    rw [D.its_len] at hsm
    clear hb6 c0 c1 c2 c3 c4 c5 c6 hJ' hN6 HN5
    go_wp2_with fail
    refine hsm.mono ?_
    rintro e w7 ⟨rfl, hb7⟩
    have HB7 := boxed (HBx.out _ (below_step HB6.out (Nat.le_refl _) hb7))
    clear hb7 hsm
    go_wp2_with fail
    go_ret
    exact ⟨rfl, HB7.out⟩

set_option maxRecDepth 100000 in
theorem lifted (os : Os) (started : os.Started) (H : Type) (enc : TypeId × Value → H) :
    ReturnsInHanded {} Try.checked os 3 .any (Rows.pagesLaidSpec.pre6 enc Try.prog Try.f3 Rows.pagesLaidRow.domain false) (Rows.pagesLaidSpec.post enc Try.prog Try.f3 false true false false) := by
  refine returnsInHanded_of_change_sized (C := Try.checked) own started (by kernel_rfl) Try.func3
    (ChangeSpec.witness6 (enc := enc) (C := Try.checked) false ⟨#[], #[.slice none 0 0, .int .i64 0, .agg #[.int .i64 0, .int .i64 0, .int .i64 0, .int .i64 0, .int .i64 0, .int .i64 0, .int .i64 0]], []⟩ 8 (by kernel_rfl) (by kernel_rfl) (by kernel_rfl) (by kernel_rfl)) ?_
  intro W base args ds gs before hval0 hW hcnd hsz0 _
  have hval : ∀ (j : Nat) t v, Try.f3.params[j]? = some t → args[j]? = some v → Value.okWide Try.prog W .any base t v := hval0
  have hsz : (DataW.weightsEach Try.prog (Try.f3.params.toList ++ Rows.pagesLaidSpec.plain.varTypes Try.prog) (ds ++ gs)).all (· ≤ reachBytes) = true := hsz0
  have hW' := hW
  obtain ⟨p, q, hA0, hV, rfl, hfz, hnd⟩ := hW
  have hA : DataW.TrodAll enc Try.prog W 0 (fun _ => true) true Try.f3.params.toList args.toList ds p := hA0
  rw [Try.params3] at hA hval hsz
  obtain ⟨v0, vs0, d0, ds0, p0, q0, hargs, rfl, rfl, h0, r0⟩ := trodAll_cons hA
  obtain ⟨v1, vs1, d1, ds1, p1, q1, rfl, rfl, rfl, h1, r1⟩ := trodAll_cons r0
  obtain ⟨v2, vs2, d2, ds2, p2, q2, rfl, rfl, rfl, h2, r2⟩ := trodAll_cons r1
  obtain ⟨rfl, rfl, rfl⟩ := trodAll_nil r2
  obtain rfl : args = #[v0, v1, v2] := by cases args; simp_all
  obtain ⟨rfl, rfl⟩ := trodVars_none hV
  obtain ⟨ao0, n0, cap0, rfl⟩ := okWide_slice Try.underlying22 (hval 0 22 v0 rfl rfl)
  have k0 := h0
  have lt0 : ∀ x ∈ p0, x.block < W.heap.size := by obtain ⟨m, hm⟩ := k0; exact DataW.trod_lt m _ _ _ hm
  obtain ⟨hn0, F0, hF0⟩ : (n0 ≤ maxLen ∧ n0 ≤ cap0) ∧ ∃ F, SltsAt (fun _ => True) W ao0 n0 F := by
    obtain ⟨fuel, hf⟩ := k0
    exact open_slots hf
  obtain ⟨a1, rfl, rfl, rfl, w1⟩ := open_int Try.underlying3 (hval 1 3 v1 rfl rfl) h1
  have k2 := h2
  have lt2 : ∀ x ∈ p2, x.block < W.heap.size := by obtain ⟨m, hm⟩ := k2; exact DataW.trod_lt m _ _ _ hm
  obtain ⟨s2, rfl, hs2⟩ : ∃ x : Stg, v2 = x.val ∧ I64 x.t ∧ I64 x.l ∧ I64 x.a ∧ I64 x.d ∧ I64 x.z ∧ I64 x.o ∧ I64 x.i := by
    obtain ⟨fuel, hf⟩ := k2
    exact sett_value hf
  clear hA0 hval0
  refine (walk W ao0 n0 cap0 F0 hn0 hF0 a1 w1 s2 hs2).mono fun e W' ⟨he, hg⟩ => ?_
  subst he
  exact ⟨_, rfl, _, _, _, [], _, [], hW', trodAll_mk1 (shut_bool Try.underlying4 _), (trodAll_cons_mk (Below.trod laidOut (by kernel_rfl) (of_decide_eq_true (by kernel_rfl)) k0 hg lt0) (trodAll_cons_mk (shut_int Try.underlying3 w1) (trodAll_cons_mk (Below.trod laidOut (by kernel_rfl) (of_decide_eq_true (by kernel_rfl)) k2 hg lt2) trodAll_mk0))), rfl, hg.frame _, fun h => by cases h⟩

theorem proved : Rows.PagesLaidSaid :=
  OpenClaim.holds_of_wide 3 Try.f3 rfl rfl rfl rfl rfl rfl rfl ⟨rfl, rfl, rfl, rfl, rfl⟩ rfl rfl rfl rfl rfl (by kernel_rfl) Try.func3 (by kernel_rfl)
    (of_decide_eq_true (by kernel_rfl)) (by unfold Func.isWrapper; first | (rw [if_pos (by decide +kernel)]; kernel_rfl) | (rw [if_neg (by decide +kernel)]; exact ⟨rfl, rfl⟩))
    (fun os started H enc _ => lifted os started H enc)
#print axioms proved
end Go.Proofs.Ytjchioopfljjhaa.pagesLaid
