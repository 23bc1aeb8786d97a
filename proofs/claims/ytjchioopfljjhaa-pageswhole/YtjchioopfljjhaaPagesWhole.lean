/-
  For every list of lines, height and settings PagesWhole answers true: where these may be, the numbers that Paginate tells begin with 0, rise, stay below the number of lines, and a page may end ahead of each.
  No condition besides the statement's own.
-/
import Derived.Test.YtjchioopfljjhaaRows
import Derived.WalkKit
import Derived.ProofKit
import Derived.OpenShut
import Derived.SizedLaws
import Derived.ShutString
import Derived.ChangeOld
import Derived.Below
import Derived.Test.YtjchioopfljjhaaHj
import Derived.Test.YtjchioopfljjhaaHk
import Derived.Test.YtjchioopfljjhaaHl
import Derived.Test.YtjchioopfljjhaaHi
namespace Go.Proofs.Ytjchioopfljjhaa.pagesWhole
open Go.ChangeShapes Go.WideShapes Go.ChangeAt Go.RowKit
open Go.ChangeMaps (open_string shut_string)
set_option linter.unusedVariables false
set_option linter.unusedSimpArgs false

theorem own : ownKnob Try.prog.godebug = none := by kernel_rfl
theorem laidOut : laidOutB Try.prog = true := by kernel_rfl

set_option maxRecDepth 100000 in
set_option maxHeartbeats 2000000 in
theorem walk (w : World) (ao0 : Option Addr) (n0 cap0 : Nat) (F0 : Nat → Slt) (hn0 : n0 ≤ maxLen ∧ n0 ≤ cap0) (hF0 : SltsAt (fun _ => True) w ao0 n0 F0) (a1 : Int) (w1 : (Lit.int .i64 a1).wf = true) (s2 : Stg) (hs2 : I64 s2.t ∧ I64 s2.l ∧ I64 s2.a ∧ I64 s2.d ∧ I64 s2.z ∧ I64 s2.o ∧ I64 s2.i) :
    Calls Try.prog 5 #[.slice ao0 n0 cap0, .int .i64 a1, s2.val] w fun e w' => e = .returned (.bool true) ∧ Below w.heap.size w w' := by
  obtain ⟨R, hR⟩ : ∃ R : Bool, (R = true ↔ Rts F0 n0 0) := by
    by_cases c : Rts F0 n0 0
    · exact ⟨true, by simp [c]⟩
    · exact ⟨false, by simp [c]⟩
  have hN : (n0 : Int) ≤ 9223372036854775807 := by have := hn0.1; unfold maxLen at this; omega
  obtain ⟨W0, hW0⟩ : ∃ W0, w.alloc (.cells #[.int .i64 s2.t, .int .i64 s2.l, .int .i64 s2.a, .int .i64 s2.d, .int .i64 s2.z, .int .i64 s2.o, .int .i64 s2.i] 24) = W0 := ⟨_, rfl⟩
  have hst := stc_new w s2
  have hB0 := (laid1 w (.cells #[.int .i64 s2.t, .int .i64 s2.l, .int .i64 s2.a, .int .i64 s2.d, .int .i64 s2.z, .int .i64 s2.o, .int .i64 s2.i] 24)).2.1
  rw [hW0] at hst hB0
  have HS := boxed hst
  have HB0 := boxed hB0
  have HW0 := boxed hW0
  have HH := boxed (hF0.below hB0)
  have HBx : Box (∀ W, Below W0.heap.size W0 W → Below w.heap.size w W) := boxed (fun W hb => below_step HB0.out (Nat.le_refl _) hb)
  clear hst hB0 hW0
  have HT := boxed (fun W (hb : Below W0.heap.size W0 W) => tried_any _ ao0 n0 cap0 F0 R hR a1 s2 W (HH.out.below hb) hn0.1)
  have HTi := boxed (trB_iff n0 R a1 s2)
  cases ht : trB n0 R a1 s2
  · rw [ht] at HT
    clear hF0 hs2 hn0 HH hR HTi ht
    unfold Stg.val at *
    go_enter Try.func5, Try.ntmps5
    go_upto_region 1 with fail
    rw [HW0.out]
    go_wp2_with fail
    refine (awake_any _).mono ?_
    rintro e w1 ⟨rfl, hb1⟩
    obtain ⟨c0, c1, c2, c3, c4, c5, c6⟩ := HS.out.below hb1
    have HB1 := boxed hb1
    clear hb1
    go_wp2_with fail
    refine (HT.out _ HB1.out).mono ?_
    rintro e w3 ⟨rfl, hb3⟩
    have HB3 := boxed (HBx.out _ (below_step HB1.out (Nat.le_refl _) hb3))
    clear hb3 c0 c1 c2 c3 c4 c5 c6 HT
    go_wp2_with fail
    go_ret
    exact ⟨rfl, HB3.out⟩
  rw [ht] at HT
  obtain ⟨hl2, hRt0, hE⟩ := HTi.out.1 ht
  have hRt := hR.1 hRt0
  have hD := dcok_of (F := F0) (n := n0) (H := a1) (g := s2) hE hRt hl2
  obtain ⟨D, hDd⟩ : ∃ D : Dc, D = ⟨F0, n0, s2.o, s2.i, a1⟩ := ⟨_, rfl⟩
  rw [← hDd] at hD
  have hDn : D.n = n0 := by rw [hDd]
  have hDF : D.F = F0 := by rw [hDd]
  have hDH : D.H = a1 := by rw [hDd]
  have HP : Box (∀ W, Below W0.heap.size W0 W → Calls Try.prog 10 #[.slice ao0 n0 cap0, .int .i64 a1, s2.val] W fun e w' => ∃ J ao' c', e = .returned (.tuple #[.slice ao' J c', .int .i64 0]) ∧ D.Pgs J ∧ NAt (fun b => W.heap.size ≤ b) w' ao' (D.its J) ∧ Below W.heap.size W w') := boxed (fun W hb => by
    subst hDd
    exact pag_ok _ s2 hD hE hRt _ ao0 cap0 W (HH.out.below hb) hn0.2)
  have HCu : Box (∀ (k : Nat) W, k ≤ n0 → Below W0.heap.size W0 W → Calls Try.prog 20 #[.slice ao0 n0 cap0, .int .i64 (k : Nat), s2.val] W fun e w' => e = .returned (.bool (D.cut k)) ∧ Below W.heap.size W w') := boxed (fun k W hk hb => by
    subst hDd
    exact refcut_any _ s2 rfl rfl _ ao0 cap0 k W (HH.out.below hb) hD.ok hk (by simp only; omega))
  have HDk := boxed hDn
  clear hE hR hF0 hs2 hn0 HH hRt hD hDd hDn hDF hDH HTi hRt0 ht
  have hl3 : (n0 : Int) ≤ 200 := by omega
  unfold Stg.val at *
  go_enter Try.func5, Try.ntmps5
  go_upto_region 1 with fail
  rw [HW0.out]
  go_wp2_with fail
  refine (awake_any _).mono ?_
  rintro e w1 ⟨rfl, hb1⟩
  obtain ⟨c0, c1, c2, c3, c4, c5, c6⟩ := HS.out.below hb1
  have HB1 := boxed hb1
  clear hb1
  go_wp2_with fail
  refine (HT.out _ HB1.out).mono ?_
  rintro e w2 ⟨rfl, hb2⟩
  have HB2 := boxed (below_step HB1.out (Nat.le_refl _) hb2)
  clear hb2 c0 c1 c2 c3 c4 c5 c6 HT HB1
  obtain ⟨c0, c1, c2, c3, c4, c5, c6⟩ := HS.out.below HB2.out
  go_wp2_with fail
  refine (HP.out _ HB2.out).mono ?_
  rintro e w3 ⟨J, a3, k3, rfl, hJ, hN3, hb3⟩
  have HB3 := boxed (below_step HB2.out (Nat.le_refl _) hb3)
  have HN3 := boxed hN3
  have HJ := boxed hJ
  clear hb3 c0 c1 c2 c3 c4 c5 c6 hN3 hJ HP HB2
  have hJ2 : J ≤ n0 := by have := D.it_ge J HJ.out.1; have := HJ.out.2; have := HDk.out; omega
  have hJ3 : (J : Int) ≤ 200 := by omega
  obtain ⟨Z, z1, z2⟩ : ∃ Z : Bool, ((J : Int) == 0) = Z ∧ ((n0 : Int) == 0) = Z := by
    refine ⟨_, rfl, ?_⟩
    rw [Bool.eq_iff_iff, beq_iff_eq, beq_iff_eq]
    constructor
    · intro e; omega
    · intro e
      have h2 := HJ.out.2
      rw [show J = 0 by omega] at h2
      have e0 : D.it 0 = 0 := rfl
      have := HDk.out
      omega
  go_wp2_with fail
  go_loopw [9] (fun iv wr => ∃ i : Nat, i ≤ J ∧ iv = .int .i64 (i : Nat) ∧ Box (Below w3.heap.size w3 wr)) (fun iv _ => J - (intOf iv).toNat)
  case atStart => exact ⟨0, Nat.zero_le _, rfl, boxed (Below.refl _ _)⟩
  case round =>
    obtain ⟨i, hi, rfl, HB⟩ := hrel
    clear z1 z2
    by_cases hlt : i < J
    · obtain ⟨b, rfl, hbw, -⟩ := HN3.out.form (by rw [D.its_len]; omega)
      have g0 := (HN3.out.below HB.out).get i (by rw [D.its_len]; omega)
      rw [D.its_get J i hlt] at g0
      have hin := HJ.out.1 i hlt
      rw [HDk.out] at hin
      have hlt2 : (i : Int) < (J : Int) := by omega
      have hB4 := below_step HB3.out (Nat.le_refl _) HB.out
      by_cases h0 : i = 0
      · subst h0
        have e0 : D.it 0 = 0 := rfl
        rw [e0] at g0 hin
        clear e0
        have t1 : decide ((n0 : Int) ≤ 0) = false := decide_eq_false (by omega)
        clear hB4
        go_wp2_with fail
        go_quiet (fail)
        go_wp2_with fail
        go_quiet (fail)
        go_wp2_with fail
        go_roundw
        case rel => exact ⟨1, by omega, rfl, boxed (HB.out.trans (bel_drewN _ _ _))⟩
        case measure => simp [intOf]; omega
      · obtain ⟨m, rfl⟩ : ∃ m, i = m + 1 := ⟨i - 1, by omega⟩
        have g1 := (HN3.out.below HB.out).get m (by rw [D.its_len]; omega)
        rw [D.its_get J m (by omega)] at g1
        have hm := HJ.out.1 m (by omega)
        obtain ⟨k1, k2, k3'⟩ := D.nx_gt (D.it m) hm
        rw [show D.nx (D.it m) = D.it (m + 1) from rfl] at k1 k2 k3'
        have hcu := fun W hb => HCu.out (D.it (m + 1)) W (by omega) hb
        rw [k3'] at hcu
        generalize D.it (m + 1) = y at *
        generalize D.it m = x at *
        have e1 : (m : Int) + 1 - 1 = (m : Int) := by omega
        have t1 : ((m : Int) + 1 == 0) = false := by rw [beq_eq_false_iff_ne]; omega
        have t2 : decide (0 < (m : Int) + 1) = true := decide_eq_true (by omega)
        have t3 : decide ((y : Int) ≤ (x : Int)) = false := decide_eq_false (by omega)
        have t4 : decide ((n0 : Int) ≤ (y : Int)) = false := decide_eq_false (by omega)
        have t5 : decide (y ≤ x) = false := decide_eq_false (by omega)
        have t6 : decide (n0 ≤ y) = false := decide_eq_false (by omega)
        have b1 : (m : Int) + 1 < (J : Int) := by omega
        have b2 : (m : Int) < (J : Int) := by omega
        have b3 : m < J := by omega
        clear k1 k2 k3' hm h0 hin hlt2 HCu hB4
        go_wp2_with fail
        go_quiet (fail)
        obtain ⟨w4, hw4⟩ : ∃ w4, wr.drewN nq = w4 := ⟨_, rfl⟩
        have HB4 : Box (Below w3.heap.size w3 w4) := boxed (by rw [← hw4]; exact HB.out.trans (bel_drewN _ _ _))
        have hB5 := below_step HB3.out (Nat.le_refl _) HB4.out
        have gy : w4.cell? ⟨b, m + 1, none⟩ = some (.int .i64 (y : Nat)) := by rw [← hw4]; exact g0
        rw [hw4]
        clear hw4 g0 g1 t3 t4 t5 t6
        obtain ⟨c0, c1, c2, c3, c4, c5, c6⟩ := HS.out.below hB5
        have v0 := cell_regrown c0
        have v1 := cell_regrown c1
        have v2 := cell_regrown c2
        have v3 := cell_regrown c3
        have v4 := cell_regrown c4
        have v5 := cell_regrown c5
        have v6 := cell_regrown c6
        have vy := cell_regrown gy
        have CC : Box (∀ d os, Calls Try.prog 20 #[.slice ao0 n0 cap0, .int .i64 (y : Nat), .agg #[.int .i64 s2.t, .int .i64 s2.l, .int .i64 s2.a, .int .i64 s2.d, .int .i64 s2.z, .int .i64 s2.o, .int .i64 s2.i]] (Go.Sort.grow (redrawn w4 d) os) fun e w'' => e = .returned (.bool true) ∧ ∃ p : Regrown, w'' = Go.Sort.grow (redrawn w4 p.d) p.os) := boxed (fun d os => Calls.regrown_of (hcu _ (below_step hB5 (Nat.le_refl _) (below_regrown w4 d os))))
        have HBn : Box (∀ d os, Below w3.heap.size w3 (Go.Sort.grow (redrawn w4 d) os)) := boxed (fun d os => below_step HB4.out (Nat.le_refl _) (below_regrown w4 d os))
        clear c0 c1 c2 c3 c4 c5 c6 gy hcu hB5
        go_wp2_with fail
        refine wp_region_quiet_below (by kernel_rfl) (by kernel_rfl) ?_
        repeat (go_big_quiet_step (first | (go_at_call 20; exact CC.out _ _)))
        refine wpQuiet_nil ?_
        intro _ hw'
        obtain ⟨⟨dq, osq⟩, hw''⟩ := hw'
        subst hw''
        have HB6 := boxed (HBn.out dq osq)
        clear HBn CC v0 v1 v2 v3 v4 v5 v6 vy
        generalize Go.Sort.grow (redrawn w4 dq) osq = w5 at *
        go_wp2_with fail
        go_roundw
        case rel => exact ⟨m + 2, by omega, by go_num, HB6⟩
        case measure => simp [intOf]; omega
    · obtain rfl : i = J := by omega
      go_wp2_with fail
      go_ret
      exact ⟨rfl, HBx.out _ (below_step HB3.out (Nat.le_refl _) HB.out)⟩

set_option maxRecDepth 100000 in
theorem lifted (os : Os) (started : os.Started) (H : Type) (enc : TypeId × Value → H) :
    ReturnsInHanded {} Try.checked os 5 .any (Rows.pagesWholeSpec.pre6 enc Try.prog Try.f5 Rows.pagesWholeRow.domain false) (Rows.pagesWholeSpec.post enc Try.prog Try.f5 false true false false) := by
  refine returnsInHanded_of_change_sized (C := Try.checked) own started (by kernel_rfl) Try.func5
    (ChangeSpec.witness6 (enc := enc) (C := Try.checked) false ⟨#[], #[.slice none 0 0, .int .i64 0, .agg #[.int .i64 0, .int .i64 0, .int .i64 0, .int .i64 0, .int .i64 0, .int .i64 0, .int .i64 0]], []⟩ 8 (by kernel_rfl) (by kernel_rfl) (by kernel_rfl) (by kernel_rfl)) ?_
  intro W base args ds gs before hval0 hW hcnd hsz0 _
  have hval : ∀ (j : Nat) t v, Try.f5.params[j]? = some t → args[j]? = some v → Value.okWide Try.prog W .any base t v := hval0
  have hsz : (DataW.weightsEach Try.prog (Try.f5.params.toList ++ Rows.pagesWholeSpec.plain.varTypes Try.prog) (ds ++ gs)).all (· ≤ reachBytes) = true := hsz0
  have hW' := hW
  obtain ⟨p, q, hA0, hV, rfl, hfz, hnd⟩ := hW
  have hA : DataW.TrodAll enc Try.prog W 0 (fun _ => true) true Try.f5.params.toList args.toList ds p := hA0
  rw [Try.params5] at hA hval hsz
  obtain ⟨v0, vs0, d0, ds0, p0, q0, hargs, rfl, rfl, h0, r0⟩ := trodAll_cons hA
  obtain ⟨v1, vs1, d1, ds1, p1, q1, rfl, rfl, rfl, h1, r1⟩ := trodAll_cons r0
  obtain ⟨v2, vs2, d2, ds2, p2, q2, rfl, rfl, rfl, h2, r2⟩ := trodAll_cons r1
  obtain ⟨rfl, rfl, rfl⟩ := trodAll_nil r2
  obtain rfl : args = #[v0, v1, v2] := by cases args; simp_all
  obtain ⟨rfl, rfl⟩ := trodVars_none hV
  obtain ⟨ao0, n0, cap0, rfl⟩ := okWide_slice Try.underlying22 (hval 0 22 v0 rfl rfl)
  have k0 := h0
  have lt0 : ∀ x ∈ p0, x.block < W.heap.size := by obtain ⟨m, hm⟩ := k0; exact DataW.trod_lt m _ _ _ hm
  obtain ⟨hn0, F0, hF0⟩ : (n0 ≤ maxLen ∧ n0 ≤ cap0) ∧ ∃ F, SltsAt (fun _ => True) W ao0 n0 F := by
    obtain ⟨fuel, hf⟩ := k0
    exact open_slots hf
  obtain ⟨a1, rfl, rfl, rfl, w1⟩ := open_int Try.underlying3 (hval 1 3 v1 rfl rfl) h1
  have k2 := h2
  have lt2 : ∀ x ∈ p2, x.block < W.heap.size := by obtain ⟨m, hm⟩ := k2; exact DataW.trod_lt m _ _ _ hm
  obtain ⟨s2, rfl, hs2⟩ : ∃ x : Stg, v2 = x.val ∧ I64 x.t ∧ I64 x.l ∧ I64 x.a ∧ I64 x.d ∧ I64 x.z ∧ I64 x.o ∧ I64 x.i := by
    obtain ⟨fuel, hf⟩ := k2
    exact sett_value hf
  clear hA0 hval0
  refine (walk W ao0 n0 cap0 F0 hn0 hF0 a1 w1 s2 hs2).mono fun e W' ⟨he, hg⟩ => ?_
  subst he
  exact ⟨_, rfl, _, _, _, [], _, [], hW', trodAll_mk1 (shut_bool Try.underlying4 _), (trodAll_cons_mk (Below.trod laidOut (by kernel_rfl) (of_decide_eq_true (by kernel_rfl)) k0 hg lt0) (trodAll_cons_mk (shut_int Try.underlying3 w1) (trodAll_cons_mk (Below.trod laidOut (by kernel_rfl) (of_decide_eq_true (by kernel_rfl)) k2 hg lt2) trodAll_mk0))), rfl, hg.frame _, fun h => by cases h⟩

theorem proved : Rows.PagesWholeSaid :=
  OpenClaim.holds_of_wide 5 Try.f5 rfl rfl rfl rfl rfl rfl rfl ⟨rfl, rfl, rfl, rfl, rfl⟩ rfl rfl rfl rfl rfl (by kernel_rfl) Try.func5 (by kernel_rfl)
    (of_decide_eq_true (by kernel_rfl)) (by unfold Func.isWrapper; first | (rw [if_pos (by decide +kernel)]; kernel_rfl) | (rw [if_neg (by decide +kernel)]; exact ⟨rfl, rfl⟩))
    (fun os started H enc _ => lifted os started H enc)
#print axioms proved
end Go.Proofs.Ytjchioopfljjhaa.pagesWhole
