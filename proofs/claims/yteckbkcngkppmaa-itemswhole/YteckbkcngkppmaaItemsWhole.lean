/-
  ItemsWhole is proved as it stands: for every list of styles, every text and every list of runs: what Build tells is refused with no items, or its items are right by both the program and the document, end where the text ends, and are together as wide as the text's runes. No condition (texts above 2000 bytes and more than 200 runs the law lets go).
-/
import Derived.Test.YteckbkcngkppmaaRows
import Derived.WalkKit
import Derived.ProofKit
import Derived.OpenShut
import Derived.SizedLaws
import Derived.ShutString
import Derived.ChangeOld
import Derived.Below
import Derived.Test.YteckbkcngkppmaaJz
import Derived.Lib.QuietBelow
import Derived.BigQuiet
namespace Go.Proofs.Yteckbkcngkppmaa.itemsWhole
open Go.ChangeShapes Go.WideShapes Go.ChangeAt Go.RowKit
open Go.ChangeMaps (open_string shut_string)
set_option linter.unusedVariables false
set_option linter.unusedSimpArgs false

theorem own : ownKnob Try.prog.godebug = none := by kernel_rfl
theorem laidOut : laidOutB Try.prog = true := by kernel_rfl

set_option maxRecDepth 100000 in
set_option maxHeartbeats 16000000 in
theorem walk (w : World) (ao0 : Option Addr) (n0 cap0 : Nat) (F0 : Nat → Sty) (hn0 : n0 ≤ cap0 ∧ cap0 * 80 ≤ 140737488351232) (hF0 : StysAt (fun _ => True) w ao0 n0 F0) (a1 : ByteArray) (w1 : a1.size ≤ maxLen) (ao2 : Option Addr) (n2 cap2 : Nat) (L2 Y2 : Nat → Int) (hn2 : n2 ≤ maxLen) (hF2 : RunsAt w ao2 n2 L2 Y2) :
    Calls Try.prog 4 #[.slice ao0 n0 cap0, .string a1, .slice ao2 n2 cap2] w fun e w' => e = .returned (.bool true) ∧ Below w.heap.size w w' := by
  have HA := boxed (awake_any w)
  have HT := boxed (fun w' (hb : Below w.heap.size w w') => table_any (fun _ => True) ao0 n0 cap0 F0 w' (hF0.below hb))
  have HFW := boxed (fun w' => few_any a1 w1 ao2 n2 cap2 hn2 w')
  have HF0 := boxed hF0
  have HF2 := boxed hF2
  have hn2' := hn2
  unfold maxLen at hn2'
  clear hF0 hF2
  go_enter Try.func4, Try.ntmps4
  go_wp2_with fail
  refine HA.out.mono ?_
  rintro e w3 ⟨rfl, hb3⟩
  have HB3 := boxed hb3
  clear hb3 HA
  go_wp2_with fail
  refine (HT.out _ HB3.out).mono ?_
  rintro e w4 ⟨hor, hb4⟩
  have HB4 := boxed (below_step HB3.out (Nat.le_refl _) hb4)
  clear hb4 HT
  rcases hor with ⟨hne, rfl⟩ | ⟨hz, tb, G, rfl, hT, hL⟩
  · clear hne
    go_wp2
    go_ret
    exact ⟨rfl, HB4.out⟩
  have hgF := (ckc_good F0 n0 hz).2.2
  have hgG : ∀ i, i < n0 → flt (G i) = 0 := fun i hi => by rw [flt_like (hL i hi)]; exact hgF i hi
  have HT4 := boxed hT
  have HLK := boxed hL
  have HGF := boxed hgF
  have HGG := boxed hgG
  clear hT hL hz hgF hgG
  by_cases hfew : a1.size ≤ 2000 ∧ n2 ≤ 200
  rotate_left
  · have hff : (decide (a1.size ≤ 2000) && decide (n2 ≤ 200)) = false := by
      cases e : (decide (a1.size ≤ 2000) && decide (n2 ≤ 200)) with
      | false => rfl
      | true => simp at e; exact absurd e hfew
    rw [hff] at HFW
    clear hff hfew
    go_wp2_with fail
    refine (HFW.out _).mono ?_
    rintro e w' ⟨rfl, hw'⟩; subst w'
    go_wp2
    go_ret
    exact ⟨rfl, HB4.out⟩
  obtain ⟨hs1, hs2⟩ := hfew
  have hff : (decide (a1.size ≤ 2000) && decide (n2 ≤ 200)) = true := by simp [hs1, hs2]
  rw [hff] at HFW
  clear hff
  obtain ⟨N, hN⟩ := cnt_ex a1
  have HBD := boxed (build_any HT4.out HGG.out a1 N hN (by omega) ao2 n2 cap2 L2 Y2 (HF2.out.below HB4.out) hn2)
  have HN := boxed hN
  clear hN
  go_wp2_with fail
  refine (HFW.out _).mono ?_
  rintro e w' ⟨rfl, hw'⟩; subst w'
  go_wp2_with fail
  refine HBD.out.mono ?_
  rintro e w5 ⟨hor, hb5⟩
  have HB5 := boxed (below_step HB4.out (Nat.le_refl _) hb5)
  clear hb5 HBD
  rcases hor with ⟨hne, rfl⟩ | ⟨hz, ao', cap', rfl, hown⟩
  · have tz : (ck a1 N n0 n2 L2 Y2 != 0) = true := by simpa using hne
    clear hne
    generalize ck a1 N n0 n2 L2 Y2 = C at *
    go_wp2
    go_ret
    exact ⟨rfl, HB5.out⟩
  obtain ⟨hR, h0, hea, hcrs, hpm⟩ := ck_zero HN.out hz
  have hlnn : ∀ j, j < n2 → 0 ≤ L2 j := fun j hj => (cr_zero (crs_each a1 N n0 L2 Y2 n2 hcrs j hj)).1
  rw [fin_like HLK.out] at hown ⊢
  obtain ⟨Y, hY⟩ : ∃ Y : Nat → Int, (fun a : Nat => sta L2 Y2 n2 0 (a : Nat)) = Y := ⟨_, rfl⟩
  have HYY : Box (∀ a : Nat, sta L2 Y2 n2 0 (a : Nat) = Y a) := boxed (fun a => by rw [← hY])
  rw [hY] at hown ⊢
  obtain ⟨hr1, hr2, hr3, hr4⟩ := fin_rgt HGF.out a1 Y N hR (by omega) h0
  have hfl := fin_len F0 n0 a1 Y N
  have hNs : N ≤ a1.size := by have h1 := cnt_le a1 N HN.out; have h2 := it_le a1 N; omega
  have hits := own_its hown rfl
  have HWA := boxed (wsf_all (fin F0 n0 a1 Y N))
  have HRW := boxed (rgt_w _ _ hr1)
  rw [hr4] at HWA
  generalize fin F0 n0 a1 Y N = FL at *
  obtain ⟨ll, hll⟩ : ∃ ll, FL.length = ll := ⟨_, rfl⟩
  rw [hll] at hits hr1 hr2 hr3 hfl HWA HRW ⊢
  generalize nth FL = I at *
  have HRI := boxed (fun w' (hb : Below w5.heap.size w5 w') => right_any _ ao' ll cap' I w' (hits.below hb) (by unfold maxLen; omega))
  have HRJ := boxed (fun w' (hb : Below w5.heap.size w5 w') => refright7_any _ ao' ll cap' I w' (hits.below hb) (by unfold maxLen; omega))
  rw [hr1] at HRI HRJ
  simp only [rcode] at HRI
  have HIT := boxed hits
  have HR := boxed hR
  have HSA := boxed (fun w' (hb : Below w.heap.size w w') (a : Nat) (ha : a ≤ 65536) => styleAt_any ao2 n2 cap2 L2 Y2 w' (HF2.out.below hb) hn2 hlnn (a : Nat) (by omega))
  simp only [HYY.out] at HSA
  have HWD := boxed (fun w' (hb : Below w.heap.size w w') y r => refwidth_any (fun _ => True) ao0 n0 cap0 F0 w' (HF0.out.below hb) y r)
  have HRU := boxed (fun w' => runes_any a1 w' (by omega) N HN.out)
  have HRS := boxed (fun k => rsm_in HGF.out a1 Y k)
  clear hits hown hY hlnn hcrs hpm hea hR hr1 hr4 hz hll
  have H55 : Box (Below w5.heap.size w5 w5) := boxed (Below.refl _ _)
  go_wp2_with fail
  refine (HRI.out _ H55.out).mono ?_
  rintro e w6 ⟨rfl, hb6⟩
  have H6 := boxed hb6
  have HB6 := boxed (below_step HB5.out (Nat.le_refl _) hb6)
  clear hb6
  go_wp2_with fail
  refine (HRJ.out _ H6.out).mono ?_
  rintro e w7 ⟨rfl, hb7⟩
  have H7 := boxed (below_step H6.out (Nat.le_refl _) hb7)
  have HB7 := boxed (below_step HB6.out (Nat.le_refl _) hb7)
  clear hb7
  obtain ⟨q, hq⟩ : ∃ q, ll - 1 = q := ⟨_, rfl⟩
  rw [hq] at hr3
  have e6 : (ll : Int) - 1 = (q : Nat) := by omega
  have hq1 : q < ll := by omega
  have hq2 : (q : Int) < (ll : Int) := by omega
  obtain ⟨b, off, e, -, -, -, -, -, -, -, -, -, c8⟩ := (HIT.out.below H7.out) q hq1
  subst e
  rw [hr3] at c8
  clear hr3 hq
  go_wp2
  go_loop [10, 12] (fun v i => ∃ k : Nat, k ≤ ll ∧ v = .int .i64 (wsf I k) ∧ i = .int .i64 (k : Int)) (fun _ i => ll - (intOf i).toNat)
  case atStart => exact ⟨0, Nat.zero_le _, rfl, rfl⟩
  case round =>
    obtain ⟨k, hk, rfl, rfl⟩ := hrel
    by_cases hlt : k < ll
    · obtain ⟨b, off, e, -, c0, c1, -⟩ := (HIT.out.below H7.out) k hlt
      injection e with e
      injection e with e1 e2
      subst e1; subst e2
      have hwi := wsf_in I ll HRW.out k hk
      have hwx := HRW.out k hlt
      have HWS : Box (wsf I (k + 1) = wsf I k + (if (I k).k = 3 then 0 else (I k).w)) := boxed rfl
      have t3 : decide ((k : Int) < (ll : Int)) = true := decide_eq_true (by omega)
      generalize wsf I k = W at *
      generalize I k = x at *
      by_cases h3 : x.k = 3
      · have HW2 : Box (wsf I (k + 1) = W) := boxed (by rw [HWS.out, if_pos h3]; omega)
        rw [h3] at c0
        clear h3 HWS
        go_wp2
        go_round
        case rel => exact ⟨k + 1, by omega, by rw [HW2.out], by go_num⟩
        case measure => simp [intOf]; omega
      · have HW2 : Box (wsf I (k + 1) = W + x.w) := boxed (by rw [HWS.out, if_neg h3])
        have t4 : (x.k != 3) = true := by simpa using h3
        have hb1 : 0 ≤ W + x.w := by omega
        have hb2 : W + x.w ≤ 600000000000000 := by omega
        clear h3 HWS hwi
        go_wp2
        go_round
        case rel => exact ⟨k + 1, by omega, by rw [HW2.out], by go_num⟩
        case measure => simp [intOf]; omega
    · have e : k = ll := by omega
      subst e
      rw [HWA.out]
      have t3 : decide ((k : Int) < (k : Int)) = false := decide_eq_false (by omega)
      clear c8
      go_wp2_with fail
      refine (HRU.out _).mono ?_
      rintro e w8 ⟨p1, c1, p2, c2, rfl, hd1, hd2, hb8⟩
      have HD1 := boxed hd1
      have HD2 := boxed hd2
      have HB8 := boxed (below_step HB7.out (Nat.le_refl _) hb8)
      clear hd1 hd2 hb8 HRU
      generalize badAt a1 N = BA at *
      go_wp2
      go_loopw [11, 16] (fun v i wr => ∃ j : Nat, j ≤ N ∧ v = .int .i64 (rsm F0 n0 a1 Y j) ∧ i = .int .i64 (j : Int) ∧ Box (Below w8.heap.size w8 wr)) (fun _ i _ => N - (intOf i).toNat)
      case atStart => exact ⟨0, Nat.zero_le _, rfl, rfl, boxed (Below.refl _ _)⟩
      case round =>
        obtain ⟨j, hj, rfl, rfl, HB⟩ := hrel
        clear t3
        have HBw := boxed (below_step HB8.out (Nat.le_refl _) HB.out)
        by_cases hjn : j < N
        · obtain ⟨⟨-, -⟩, hx | ⟨b1, off1, e1, -, hcell1⟩⟩ := HD1.out.below HB.out
          · exfalso; have := rns_len a1 N; rw [hx] at this; simp at this; omega
          obtain ⟨⟨-, -⟩, hx | ⟨b2, off2, e2, -, hcell2⟩⟩ := HD2.out.below HB.out
          · exfalso; have := its_len a1 N; rw [hx] at this; simp at this; omega
          subst e1; subst e2
          have cr := hcell1 j (by rw [rns_len]; exact hjn)
          rw [rns_get a1 N j hjn] at cr
          have cf := hcell2 j (by rw [its_len]; exact hjn)
          rw [its_get a1 N j hjn] at cf
          clear hcell1 hcell2
          have hfl2 := it_le a1 j
          have hrl := rn_le a1 j
          have hr1 := HRS.out j
          have hr2 := HRS.out (j + 1)
          have HRM : Box (rsm F0 n0 a1 Y (j + 1) = rsm F0 n0 a1 Y j + wdS (ofS F0 n0 (Y (it a1 j))) (rn a1 j : Nat)) := boxed rfl
          rw [HRM.out] at hr2
          have CS : Box (∀ d os, Calls Try.prog 19 #[.slice ao2 n2 cap2, .int .i64 (it a1 j : Nat)] (Go.Sort.grow (redrawn wr d) os) fun e w'' => e = .returned (.int .i64 (Y (it a1 j))) ∧ ∃ p : Regrown, w'' = Go.Sort.grow (redrawn wr p.d) p.os) := boxed (fun d os => Calls.regrown_of ((HSA.out _ (below_step HBw.out (Nat.le_refl _) (below_regrown wr d os)) (it a1 j) (by omega)).mono (by rintro e w' ⟨h1, rfl⟩; exact ⟨h1, Below.refl _ _⟩)))
          have CW : Box (∀ d os, Calls Try.prog 18 #[.slice ao0 n0 cap0, .int .i64 (Y (it a1 j)), .int .i64 (rn a1 j : Nat)] (Go.Sort.grow (redrawn wr d) os) fun e w'' => e = .returned (.int .i64 (wdS (ofS F0 n0 (Y (it a1 j))) (rn a1 j : Nat))) ∧ ∃ p : Regrown, w'' = Go.Sort.grow (redrawn wr p.d) p.os) := boxed (fun d os => Calls.regrown_of (HWD.out _ (below_step HBw.out (Nat.le_refl _) (below_regrown wr d os)) _ _))
          have vr := cell_regrown cr
          have vf := cell_regrown cf
          have t3 : decide ((j : Int) < (N : Int)) = true := decide_eq_true (by omega)
          generalize rsm F0 n0 a1 Y j = R at *
          generalize wdS (ofS F0 n0 (Y (it a1 j))) ((rn a1 j : Nat) : Int) = WD at *
          generalize Y (it a1 j) = y at *
          generalize it a1 j = f at *
          generalize rn a1 j = r at *
          have hw1 : IntKind.i64.wrap (R + WD) = R + WD := by rw [IntKind.wrap_i64]; omega
          obtain ⟨hr1a, hr1b⟩ := hr1
          obtain ⟨hr2a, hr2b⟩ := hr2
          have hun : undef = Value.tuple #[] := rfl
          clear cr cf
          go_wp2_with fail
          refine wp_region_quiet_below (by kernel_rfl) (by kernel_rfl) ?_
          repeat (go_big_quiet_step (first | (go_at_call 19; exact CS.out _ _) | (go_at_call 18; exact CW.out _ _)))
          refine wpQuiet_nil ?_
          intro _ hw'
          obtain ⟨⟨dq, osq⟩, hw''⟩ := hw'
          subst hw''
          have HB6' := boxed (below_step HB.out (Nat.le_refl _) (below_regrown wr dq osq))
          clear vr vf CS CW
          generalize Go.Sort.grow (redrawn wr dq) osq = w9 at *
          go_wp2
          go_roundw
          case rel => first | exact ⟨j + 1, by omega, by rw [HRM.out], by go_num, HB6'⟩ | exact ⟨j + 1, by omega, HRM.out.symm, by omega⟩
          case measure => simp [intOf]; omega
        · have e : j = N := by omega
          subst e
          have t3 : decide ((j : Int) < (j : Int)) = false := decide_eq_false (by omega)
          generalize rsm F0 n0 a1 Y j = R at *
          go_wp2
          go_ret
          exact ⟨by first | rfl | (simp; done), HBw.out⟩

set_option maxRecDepth 100000 in
theorem lifted (os : Os) (started : os.Started) (H : Type) (enc : TypeId × Value → H) :
    ReturnsInHanded {} Try.checked os 4 .any (Rows.itemsWholeSpec.pre6 enc Try.prog Try.f4 Rows.itemsWholeRow.domain false) (Rows.itemsWholeSpec.post enc Try.prog Try.f4 false true false false) := by
  refine returnsInHanded_of_change_sized (C := Try.checked) own started (by kernel_rfl) Try.func4
    (ChangeSpec.witness6 (enc := enc) (C := Try.checked) false ⟨#[], #[.slice none 0 0, .string ByteArray.empty, .slice none 0 0], []⟩ 8 (by kernel_rfl) (by kernel_rfl) (by kernel_rfl) (by kernel_rfl)) ?_
  intro W base args ds gs before hval0 hW hcnd hsz0 _
  have hval : ∀ (j : Nat) t v, Try.f4.params[j]? = some t → args[j]? = some v → Value.okWide Try.prog W .any base t v := hval0
  have hsz : (DataW.weightsEach Try.prog (Try.f4.params.toList ++ Rows.itemsWholeSpec.plain.varTypes Try.prog) (ds ++ gs)).all (· ≤ reachBytes) = true := hsz0
  have hW' := hW
  obtain ⟨p, q, hA0, hV, rfl, hfz, hnd⟩ := hW
  have hA : DataW.TrodAll enc Try.prog W 0 (fun _ => true) true Try.f4.params.toList args.toList ds p := hA0
  rw [Try.params4] at hA hval hsz
  obtain ⟨v0, vs0, d0, ds0, p0, q0, hargs, rfl, rfl, h0, r0⟩ := trodAll_cons hA
  obtain ⟨v1, vs1, d1, ds1, p1, q1, rfl, rfl, rfl, h1, r1⟩ := trodAll_cons r0
  obtain ⟨v2, vs2, d2, ds2, p2, q2, rfl, rfl, rfl, h2, r2⟩ := trodAll_cons r1
  obtain ⟨rfl, rfl, rfl⟩ := trodAll_nil r2
  obtain rfl : args = #[v0, v1, v2] := by cases args; simp_all
  obtain ⟨rfl, rfl⟩ := trodVars_none hV
  obtain ⟨ao0, n0, cap0, rfl⟩ := okWide_slice Try.underlying22 (hval 0 22 v0 rfl rfl)
  have k0 := h0
  have lt0 : ∀ x ∈ p0, x.block < W.heap.size := by obtain ⟨m, hm⟩ := k0; exact DataW.trod_lt m _ _ _ hm
  obtain ⟨hn0, -, F0, hF0⟩ : (n0 ≤ cap0 ∧ cap0 * 80 ≤ 140737488351232) ∧ (ao0 = none → n0 = 0 ∧ cap0 = 0) ∧ ∃ F, StysAt (fun _ => True) W ao0 n0 F := by
    obtain ⟨fuel, hf⟩ := k0
    exact open_styles hf (fun n hn => by simpa using List.all_eq_true.1 hsz _ (DataW.weights_mem_each (j := 0) rfl rfl n hn))
  obtain ⟨a1, rfl, rfl, rfl, w1⟩ := open_string Try.underlying9 (hval 1 9 v1 rfl rfl) h1
  obtain ⟨ao2, n2, cap2, rfl⟩ := okWide_slice Try.underlying23 (hval 2 23 v2 rfl rfl)
  have k2 := h2
  have lt2 : ∀ x ∈ p2, x.block < W.heap.size := by obtain ⟨m, hm⟩ := k2; exact DataW.trod_lt m _ _ _ hm
  obtain ⟨hn2, L2, Y2, hF2⟩ : n2 ≤ maxLen ∧ ∃ L Y, RunsAt W ao2 n2 L Y := by
    obtain ⟨fuel, hf⟩ := k2
    exact open_runs hf
  clear hA0 hval0
  refine (walk W ao0 n0 cap0 F0 hn0 hF0 a1 w1 ao2 n2 cap2 L2 Y2 hn2 hF2).mono fun e W' ⟨he, hg⟩ => ?_
  subst he
  exact ⟨_, rfl, _, _, _, [], _, [], hW', trodAll_mk1 (shut_bool Try.underlying4 _), (trodAll_cons_mk (Below.trod laidOut (by kernel_rfl) (of_decide_eq_true (by kernel_rfl)) k0 hg lt0) (trodAll_cons_mk (shut_string Try.underlying9 w1) (trodAll_cons_mk (Below.trod laidOut (by kernel_rfl) (of_decide_eq_true (by kernel_rfl)) k2 hg lt2) trodAll_mk0))), rfl, hg.frame _, fun h => by cases h⟩

theorem proved : Rows.ItemsWholeSaid :=
  OpenClaim.holds_of_wide 4 Try.f4 rfl rfl rfl rfl rfl rfl rfl ⟨rfl, rfl, rfl, rfl, rfl⟩ rfl rfl rfl rfl rfl (by kernel_rfl) Try.func4 (by kernel_rfl)
    (of_decide_eq_true (by kernel_rfl)) (by unfold Func.isWrapper; first | (rw [if_pos (by decide +kernel)]; kernel_rfl) | (rw [if_neg (by decide +kernel)]; exact ⟨rfl, rfl⟩))
    (fun os started H enc _ => lifted os started H enc)
#print axioms proved
end Go.Proofs.Yteckbkcngkppmaa.itemsWhole
