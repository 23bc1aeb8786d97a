/-
  For any three layouts DiffChains answers true: one diff behind another one leads where the one from the first to the last layout leads.
  No condition besides the statement's own (layouts above 20 pages, pages above 40 lines, lines above 20 runs and runs above 2^40 bytes are let go by the law itself).
-/
import Derived.Test.YtoodhpgaikmalabRows
import Derived.WalkKit
import Derived.ProofKit
import Derived.OpenShut
import Derived.SizedLaws
import Derived.ShutString
import Derived.ChangeOld
import Derived.Below
import Derived.Test.YtoodhpgaikmalabAa
namespace Go.Proofs.Ytoodhpgaikmalab.diffChains
open Go.ChangeShapes Go.WideShapes Go.ChangeAt Go.RowKit
open Go.ChangeMaps (open_string shut_string)
set_option linter.unusedVariables false
set_option linter.unusedSimpArgs false

theorem own : ownKnob Try.prog.godebug = none := by kernel_rfl
theorem laidOut : laidOutB Try.prog = true := by kernel_rfl

set_option maxRecDepth 100000 in
set_option maxHeartbeats 2000000 in
theorem walk (w : World) (ao0 : Option Addr) (n0 cap0 : Nat) (P0 : Nat → Pgv) (hn0 : n0 ≤ maxLen ∧ Sl ao0 cap0 n0) (hP0 : PgsR (fun _ => True) w ao0 n0 P0) (ao1 : Option Addr) (n1 cap1 : Nat) (P1 : Nat → Pgv) (hn1 : n1 ≤ maxLen ∧ Sl ao1 cap1 n1) (hP1 : PgsR (fun _ => True) w ao1 n1 P1) (ao2 : Option Addr) (n2 cap2 : Nat) (P2 : Nat → Pgv) (hn2 : n2 ≤ maxLen ∧ Sl ao2 cap2 n2) (hP2 : PgsR (fun _ => True) w ao2 n2 P2) :
    Calls Try.prog 3 #[.slice ao0 n0 cap0, .slice ao1 n1 cap1, .slice ao2 n2 cap2] w fun e w' => e = .returned (.bool true) ∧ Below w.heap.size w w' := by
  have HAw := boxed (awake_any w)
  have HFw0 := boxed (fun W (hb : Below w.heap.size w W) => few_any _ ao0 n0 cap0 P0 W (hP0.below hb) hn0.1)
  have HIn0 := boxed (fun W (hb : Below w.heap.size w W) => fun h => pages_in (hP0.below hb) h)
  have HFw1 := boxed (fun W (hb : Below w.heap.size w W) => few_any _ ao1 n1 cap1 P1 W (hP1.below hb) hn1.1)
  have HIn1 := boxed (fun W (hb : Below w.heap.size w W) => fun h => pages_in (hP1.below hb) h)
  have HFw2 := boxed (fun W (hb : Below w.heap.size w W) => few_any _ ao2 n2 cap2 P2 W (hP2.below hb) hn2.1)
  have HIn2 := boxed (fun W (hb : Below w.heap.size w W) => fun h => pages_in (hP2.below hb) h)
  have hsl0 := hn0.2
  have hsl1 := hn1.2
  have hsl2 := hn2.2
  clear hn0 hP0 hn1 hP1 hn2 hP2
  go_enter Try.func3, Try.ntmps3
  go_wp2_with fail
  refine HAw.out.mono ?_
  rintro e w1 ⟨rfl, hb1⟩
  have HB1 := boxed hb1
  clear hb1 HAw
  go_wp2_with fail
  refine (HFw0.out _ HB1.out).mono ?_
  rintro e w9 ⟨b0, rfl, hq0, rfl⟩
  have HQ0 := boxed hq0
  clear hq0 HFw0
  cases b0 with
  | false =>
    have hun : undef = Value.tuple #[] := rfl
    go_wp2_with fail
    go_ret
    exact ⟨rfl, HB1.out⟩
  | true =>
    go_wp2_with fail
    refine (HFw1.out _ HB1.out).mono ?_
    rintro e w9 ⟨b1, rfl, hq1, rfl⟩
    have HQ1 := boxed hq1
    clear hq1 HFw1
    cases b1 with
    | false =>
      have hun : undef = Value.tuple #[] := rfl
      go_wp2_with fail
      go_ret
      exact ⟨rfl, HB1.out⟩
    | true =>
      go_wp2_with fail
      refine (HFw2.out _ HB1.out).mono ?_
      rintro e w9 ⟨b2, rfl, hq2, rfl⟩
      have HQ2 := boxed hq2
      clear hq2 HFw2
      cases b2 with
      | false =>
        have hun : undef = Value.tuple #[] := rfl
        go_wp2_with fail
        go_ret
        exact ⟨rfl, HB1.out⟩
      | true =>
        obtain ⟨ps0, HPs0, hlp0, hfp0⟩ : ∃ ps : List (List Key), Box (∀ W, Below w.heap.size w W → PsAt (fun _ => True) W ao0 ps) ∧ ps.length = n0 ∧ Few ps := ⟨pgs n0 P0, boxed (fun W hb => (HIn0.out W hb (HQ0.out.1 (by first | rfl | trivial))).1), pgs_len _ _, (HIn0.out w (Below.refl _ _) (HQ0.out.1 (by first | rfl | trivial))).2⟩
        obtain ⟨ps1, HPs1, hlp1, hfp1⟩ : ∃ ps : List (List Key), Box (∀ W, Below w.heap.size w W → PsAt (fun _ => True) W ao1 ps) ∧ ps.length = n1 ∧ Few ps := ⟨pgs n1 P1, boxed (fun W hb => (HIn1.out W hb (HQ1.out.1 (by first | rfl | trivial))).1), pgs_len _ _, (HIn1.out w (Below.refl _ _) (HQ1.out.1 (by first | rfl | trivial))).2⟩
        obtain ⟨ps2, HPs2, hlp2, hfp2⟩ : ∃ ps : List (List Key), Box (∀ W, Below w.heap.size w W → PsAt (fun _ => True) W ao2 ps) ∧ ps.length = n2 ∧ Few ps := ⟨pgs n2 P2, boxed (fun W hb => (HIn2.out W hb (HQ2.out.1 (by first | rfl | trivial))).1), pgs_len _ _, (HIn2.out w (Below.refl _ _) (HQ2.out.1 (by first | rfl | trivial))).2⟩
        clear HIn0 HQ0 HIn1 HQ1 HIn2 HQ2
        have HD01 := boxed (fun W hb => diff_few _ _ ao0 ao1 ps0 ps1 cap0 cap1 W (HPs0.out W hb) (HPs1.out W hb) hfp0 hfp1)
        have HD12 := boxed (fun W hb => diff_few _ _ ao1 ao2 ps1 ps2 cap1 cap2 W (HPs1.out W hb) (HPs2.out W hb) hfp1 hfp2)
        have HD02 := boxed (fun W hb => diff_few _ _ ao0 ao2 ps0 ps2 cap0 cap2 W (HPs0.out W hb) (HPs2.out W hb) hfp0 hfp2)
        have HP01 := boxed (fun W ro rc S' hb h hs => patch_dif _ S' ao0 ro ps0 ps1 cap0 rc W (HPs0.out W hb) h hfp0 hfp1 (by rw [hlp0]; exact hsl0) hs)
        have HP12 := boxed (fun W xo xc S ro rc S' hx h hsx hs => patch_dif S S' xo ro ps1 ps2 xc rc W hx h hfp1 hfp2 hsx hs)
        have HP02 := boxed (fun W ro rc S' hb h hs => patch_dif _ S' ao0 ro ps0 ps2 cap0 rc W (HPs0.out W hb) h hfp0 hfp2 (by rw [hlp0]; exact hsl0) hs)
        have HPy := boxed (fun W S S' yo yc zo zc h h' => pages_like S S' yo zo ps2 yc zc W h h' hfp2)
        have HPc := boxed (fun W hb S yo yc h => pages_like S _ yo ao2 ps2 yc cap2 W h (HPs2.out W hb) hfp2)
        have HL1 := boxed hlp1
        have HL2 := boxed hlp2
        rw [hlp0] at HD01 HD02 HP01 HP02
        rw [hlp1] at HD01 HD12 HP01 HP12
        rw [hlp2] at HD12 HD02 HP12 HP02 HPy HPc
        clear hfp0 hfp1 hfp2 hlp0 hlp1 hlp2 hsl0 hsl1 hsl2
        go_wp2_with fail
        refine (HD01.out _ HB1.out).mono ?_
        rintro e w2 ⟨ro, rc, rfl, hrs, hra, hb2⟩
        have HB2 := boxed (below_step HB1.out (Nat.le_refl _) hb2)
        have HX := boxed (HP01.out w2 ro rc _ HB2.out hra hrs)
        obtain ⟨d1, hd1⟩ : ∃ d1, (dif ps0 ps1).length = d1 := ⟨_, rfl⟩
        rw [hd1] at HX
        clear hrs hra hb2 HD01 HP01
        go_wp2_with fail
        refine HX.out.mono ?_
        rintro e w3 ⟨xo, xc, rfl, hpo, hb3⟩
        have HB3 := boxed (below_step HB2.out (Nat.le_refl _) hb3)
        have HPX := boxed hpo
        clear hb3 hpo HX hd1
        go_wp2_with fail
        refine (HD12.out _ HB3.out).mono ?_
        rintro e w4 ⟨ro2, rc2, rfl, hrs, hra, hb4⟩
        have HB4 := boxed (below_step HB3.out (Nat.le_refl _) hb4)
        have hpx := HPX.out.keep hb4
        have hcx := hpx.cap
        rw [HL1.out] at hcx
        have HY := boxed (HP12.out w4 xo xc _ ro2 rc2 _ hpx.at hra hcx hrs)
        obtain ⟨d2, hd2⟩ : ∃ d2, (dif ps1 ps2).length = d2 := ⟨_, rfl⟩
        rw [hd2] at HY
        clear hrs hra hb4 HD12 HP12 HPX hpx hcx
        go_wp2_with fail
        refine HY.out.mono ?_
        rintro e w5 ⟨yo, yc, rfl, hpo, hb5⟩
        have HB5 := boxed (below_step HB4.out (Nat.le_refl _) hb5)
        have HPY := boxed hpo
        clear hb5 hpo HY hd2
        go_wp2_with fail
        refine (HD02.out _ HB5.out).mono ?_
        rintro e w6 ⟨ro3, rc3, rfl, hrs, hra, hb6⟩
        have HB6 := boxed (below_step HB5.out (Nat.le_refl _) hb6)
        have HPY6 := boxed (HPY.out.keep hb6)
        have HZ := boxed (HP02.out w6 ro3 rc3 _ HB6.out hra hrs)
        obtain ⟨d3, hd3⟩ : ∃ d3, (dif ps0 ps2).length = d3 := ⟨_, rfl⟩
        rw [hd3] at HZ
        clear hrs hra hb6 HD02 HP02 HPY
        go_wp2_with fail
        refine HZ.out.mono ?_
        rintro e w7 ⟨zo, zc, rfl, hpo, hb7⟩
        have HB7 := boxed (below_step HB6.out (Nat.le_refl _) hb7)
        have HPY7 := boxed (HPY6.out.keep hb7)
        have HPZ := boxed hpo
        clear hb7 hpo HZ hd3 HPY6
        go_wp2_with fail
        refine (HPy.out _ _ _ yo yc zo zc HPY7.out.at HPZ.out.at).mono ?_
        rintro e w8 ⟨rfl, hb8⟩
        have HB8 := boxed (below_step HB7.out (Nat.le_refl _) hb8)
        have HPY8 := boxed (HPY7.out.keep hb8)
        clear hb8 HPY7 HPZ HPy
        go_wp2_with fail
        refine (HPc.out _ HB8.out _ yo yc HPY8.out.at).mono ?_
        rintro e w10 ⟨rfl, hb10⟩
        have HB10 := boxed (below_step HB8.out (Nat.le_refl _) hb10)
        clear hb10
        go_wp2_with fail
        go_ret
        exact ⟨rfl, HB10.out⟩

set_option maxRecDepth 100000 in
theorem lifted (os : Os) (started : os.Started) (H : Type) (enc : TypeId × Value → H) :
    ReturnsInHanded {} Try.checked os 3 .any (Rows.diffChainsSpec.pre6 enc Try.prog Try.f3 Rows.diffChainsRow.domain false) (Rows.diffChainsSpec.post enc Try.prog Try.f3 false true false false) := by
  refine returnsInHanded_of_change_sized (C := Try.checked) own started (by kernel_rfl) Try.func3
    (ChangeSpec.witness6 (enc := enc) (C := Try.checked) false ⟨#[], #[.slice none 0 0, .slice none 0 0, .slice none 0 0], []⟩ 8 (by kernel_rfl) (by kernel_rfl) (by kernel_rfl) (by kernel_rfl)) ?_
  intro W base args ds gs before hval0 hW hcnd hsz0 _
  have hval : ∀ (j : Nat) t v, Try.f3.params[j]? = some t → args[j]? = some v → Value.okWide Try.prog W .any base t v := hval0
  have hsz : (DataW.weightsEach Try.prog (Try.f3.params.toList ++ Rows.diffChainsSpec.plain.varTypes Try.prog) (ds ++ gs)).all (· ≤ reachBytes) = true := hsz0
  have hW' := hW
  obtain ⟨p, q, hA0, hV, rfl, hfz, hnd⟩ := hW
  have hA : DataW.TrodAll enc Try.prog W 0 (fun _ => true) true Try.f3.params.toList args.toList ds p := hA0
  rw [Try.params3] at hA hval hsz
  obtain ⟨v0, vs0, d0, ds0, p0, q0, hargs, rfl, rfl, h0, r0⟩ := trodAll_cons hA
  obtain ⟨v1, vs1, d1, ds1, p1, q1, rfl, rfl, rfl, h1, r1⟩ := trodAll_cons r0
  obtain ⟨v2, vs2, d2, ds2, p2, q2, rfl, rfl, rfl, h2, r2⟩ := trodAll_cons r1
  obtain ⟨rfl, rfl, rfl⟩ := trodAll_nil r2
  obtain rfl : args = #[v0, v1, v2] := by cases args; simp_all
  obtain ⟨rfl, rfl⟩ := trodVars_none hV
  obtain ⟨ao0, n0, cap0, rfl⟩ := okWide_slice Try.underlying22 (hval 0 22 v0 rfl rfl)
  have k0 := h0
  have lt0 : ∀ x ∈ p0, x.block < W.heap.size := by obtain ⟨m, hm⟩ := k0; exact DataW.trod_lt m _ _ _ hm
  obtain ⟨hn0, P0, hP0⟩ : (n0 ≤ maxLen ∧ Sl ao0 cap0 n0) ∧ ∃ P, PgsR (fun _ => True) W ao0 n0 P := by
    obtain ⟨fuel, hf⟩ := k0
    exact open_pages hf (fun n hn => by simpa using List.all_eq_true.1 hsz _ (DataW.weights_mem_each (j := 0) rfl rfl n hn))
  obtain ⟨ao1, n1, cap1, rfl⟩ := okWide_slice Try.underlying22 (hval 1 22 v1 rfl rfl)
  have k1 := h1
  have lt1 : ∀ x ∈ p1, x.block < W.heap.size := by obtain ⟨m, hm⟩ := k1; exact DataW.trod_lt m _ _ _ hm
  obtain ⟨hn1, P1, hP1⟩ : (n1 ≤ maxLen ∧ Sl ao1 cap1 n1) ∧ ∃ P, PgsR (fun _ => True) W ao1 n1 P := by
    obtain ⟨fuel, hf⟩ := k1
    exact open_pages hf (fun n hn => by simpa using List.all_eq_true.1 hsz _ (DataW.weights_mem_each (j := 1) rfl rfl n hn))
  obtain ⟨ao2, n2, cap2, rfl⟩ := okWide_slice Try.underlying22 (hval 2 22 v2 rfl rfl)
  have k2 := h2
  have lt2 : ∀ x ∈ p2, x.block < W.heap.size := by obtain ⟨m, hm⟩ := k2; exact DataW.trod_lt m _ _ _ hm
  obtain ⟨hn2, P2, hP2⟩ : (n2 ≤ maxLen ∧ Sl ao2 cap2 n2) ∧ ∃ P, PgsR (fun _ => True) W ao2 n2 P := by
    obtain ⟨fuel, hf⟩ := k2
    exact open_pages hf (fun n hn => by simpa using List.all_eq_true.1 hsz _ (DataW.weights_mem_each (j := 2) rfl rfl n hn))
  clear hA0 hval0
  refine (walk W ao0 n0 cap0 P0 hn0 hP0 ao1 n1 cap1 P1 hn1 hP1 ao2 n2 cap2 P2 hn2 hP2).mono fun e W' ⟨he, hg⟩ => ?_
  subst he
  exact ⟨_, rfl, _, _, _, [], _, [], hW', trodAll_mk1 (shut_bool Try.underlying4 _), (trodAll_cons_mk (Below.trod laidOut (by kernel_rfl) (of_decide_eq_true (by kernel_rfl)) k0 hg lt0) (trodAll_cons_mk (Below.trod laidOut (by kernel_rfl) (of_decide_eq_true (by kernel_rfl)) k1 hg lt1) (trodAll_cons_mk (Below.trod laidOut (by kernel_rfl) (of_decide_eq_true (by kernel_rfl)) k2 hg lt2) trodAll_mk0))), rfl, hg.frame _, fun h => by cases h⟩

theorem proved : Rows.DiffChainsSaid :=
  OpenClaim.holds_of_wide 3 Try.f3 rfl rfl rfl rfl rfl rfl rfl ⟨rfl, rfl, rfl, rfl, rfl⟩ rfl rfl rfl rfl rfl (by kernel_rfl) Try.func3 (by kernel_rfl)
    (of_decide_eq_true (by kernel_rfl)) (by unfold Func.isWrapper; first | (rw [if_pos (by decide +kernel)]; kernel_rfl) | (rw [if_neg (by decide +kernel)]; exact ⟨rfl, rfl⟩))
    (fun os started H enc _ => lifted os started H enc)
#print axioms proved
end Go.Proofs.Ytoodhpgaikmalab.diffChains
