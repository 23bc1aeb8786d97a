/-
  For every list of styles, every pages and every spot the law LocateHits answers true: the byte that is told is the document's.
  No condition besides the statement's own (styles that aren't right, pages that aren't few, and pages with lines that aren't tried, are let go by the law itself).
-/
import Derived.Test.YtcdcpmcjlchfgaaRows
import Derived.WalkKit
import Derived.ProofKit
import Derived.OpenShut
import Derived.SizedLaws
import Derived.ShutString
import Derived.ChangeOld
import Derived.Below
import Derived.Test.YtcdcpmcjlchfgaaLpw
import Derived.Test.YtcdcpmcjlchfgaaLpr
import Derived.Deep.Cut
import Derived.Deep.RegionHeld3
import Derived.Lib.QuietBelow
import Derived.BigQuiet
namespace Go.Proofs.Ytcdcpmcjlchfgaa.locateHits
open Go.ChangeShapes Go.WideShapes Go.ChangeAt Go.RowKit
open Go.ChangeMaps (open_string shut_string)
set_option linter.unusedVariables false
set_option linter.unusedSimpArgs false

theorem own : ownKnob Try.prog.godebug = none := by kernel_rfl
theorem laidOut : laidOutB Try.prog = true := by kernel_rfl

set_option maxRecDepth 100000 in
set_option maxHeartbeats 8000000 in
theorem walk (w : World) (ao0 : Option Addr) (n0 cap0 : Nat) (F0 : Nat → Sty) (hn0 : n0 ≤ cap0 ∧ cap0 * 80 ≤ 140737488351232) (hF0 : StysAt (fun _ => True) w ao0 n0 F0) (ao1 : Option Addr) (n1 cap1 : Nat) (P1 : Nat → Pgv) (hn1 : n1 ≤ maxLen ∧ Sl ao1 cap1 n1) (hP1 : PgsR (fun _ => True) w ao1 n1 P1) (x2 y2 z2 : Int) (hs2 : I64 x2 ∧ I64 y2 ∧ I64 z2) :
    Calls Try.prog 6 #[.slice ao0 n0 cap0, .slice ao1 n1 cap1, .agg #[.int .i64 x2, .int .i64 y2, .int .i64 z2]] w fun e w' => e = .returned (.bool true) ∧ Below w.heap.size w w' := by
  obtain ⟨w0, hw0, hB0, hC0⟩ := spot3_new w x2 y2 z2
  have HW0 := boxed hw0
  have HB0 := boxed hB0
  have HS0 := boxed hC0
  clear hw0 hB0 hC0
  have htb := boxed (fun W (hb : Below w.heap.size w W) => table_any (fun _ => True) ao0 n0 cap0 F0 W (hF0.below hb))
  have HF0 := boxed hF0
  have HP1 := boxed hP1
  have HN1 := boxed hn1
  have HFw := boxed (fun W (hb : Below w.heap.size w W) => few_any (fun _ => True) ao1 n1 cap1 P1 W (hP1.below hb) hn1.1)
  have HAw := boxed (fun W => awake_any W)
  clear hF0 hP1 hn1
  go_enter Try.func6, Try.ntmps6
  go_upto_region 1 with (fail)
  rw [HW0.out]
  go_wp2_with fail
  refine (HAw.out _).mono ?_
  rintro e w1 ⟨rfl, hb1⟩
  have HB1 := boxed (below_step HB0.out (Nat.le_refl _) hb1)
  have HS1 := boxed (fun W (hb : Below w1.heap.size w1 W) => HS0.out W (below_step hb1 (Nat.le_refl _) hb))
  clear hb1 HAw
  go_wp2_with fail
  refine (htb.out _ HB1.out).mono ?_
  rintro e w2 ⟨hor, hb2⟩
  have HB2 := boxed (below_step HB1.out (Nat.le_refl _) hb2)
  have HS2 := boxed (fun W (hb : Below w2.heap.size w2 W) => HS1.out W (below_step hb2 (Nat.le_refl _) hb))
  clear hb2 htb
  have hun : undef = Value.tuple #[] := rfl
  rcases hor with ⟨hne, rfl⟩ | ⟨hz, tb, G, rfl, hT, hL⟩
  · go_wp2_with fail
    go_ret
    exact ⟨rfl, HB2.out⟩
  have hg : ∀ i, i < n0 → flt (G i) = 0 := fun i hi => by rw [flt_like (hL i hi)]; exact (ckc_good F0 n0 hz).2.2 i hi
  have hgF : ∀ i, i < n0 → flt (F0 i) = 0 := (ckc_good F0 n0 hz).2.2
  have HT2 := boxed (hT.mono HB1.out.size)
  have HG := boxed hg
  have HGF := boxed hgF
  have HLk : Box (∀ a, Like (ofS F0 n0 a) (ofS G n0 a)) := boxed (ofS_like hL)
  clear hT hL hz hg hgF
  go_wp2_with fail
  refine (HFw.out _ HB2.out).mono ?_
  rintro e w3 ⟨⟨b, rfl, hb⟩, hb3⟩
  have HB3 := boxed (below_step HB2.out (Nat.le_refl _) hb3)
  have HT := boxed (HT2.out.below hb3)
  have HS3 := boxed (fun W (hb : Below w3.heap.size w3 W) => HS2.out W (below_step hb3 (Nat.le_refl _) hb))
  have HBb := boxed hb
  clear hb hb3 HFw HT2
  cases b with
  | false =>
    go_wp2_with fail
    go_ret
    exact ⟨rfl, HB3.out⟩
  | true =>
    have HFP := boxed (HBb.out (by first | rfl | trivial))
    have hsm := HFP.out.small
    clear HBb
    have hHt := hit_any HT.out HG.out ao1 n1 cap1 P1 (HP1.out.below HB3.out) HN1.out HFP.out x2 y2 z2 hs2
    have HRh := boxed (fun W (hb : Below w.heap.size w W) => refhit_any (fun _ => True) ao0 n0 cap0 F0 W (HF0.out.below hb) HGF.out ao1 n1 cap1 P1 (HP1.out.below hb) HN1.out HFP.out x2 y2 z2 hs2)
    obtain ⟨s0, s1, s2⟩ := HS3.out w3 (Below.refl _ _)
    go_wp2_with fail
    refine hHt.mono ?_
    rintro e w4 ⟨⟨u, rfl, hu⟩, hb4⟩
    have HU := boxed hu
    have HB4 := boxed (below_step HB3.out (Nat.le_refl _) hb4)
    have HS4 := boxed (HS3.out w4 hb4)
    clear hu hb4 hHt s0 s1 s2 HS3
    obtain ⟨s0, s1, s2⟩ := HS4.out
    cases u with
    | none =>
      unfold htV
      go_wp2_with fail
      refine (HRh.out _ HB4.out).mono ?_
      rintro e w5 ⟨⟨v, rfl, hv⟩, hb5⟩
      have e5 := htp_one HLk.out HU.out hv
      subst e5
      have HB5 := boxed (below_step HB4.out (Nat.le_refl _) hb5)
      clear hv hb5 HRh s0 s1 s2 HS4
      unfold htW
      go_wp2_with fail
      go_ret
      exact ⟨rfl, HB5.out⟩
    | some u =>
      unfold htV
      go_wp2_with fail
      refine (HRh.out _ HB4.out).mono ?_
      rintro e w5 ⟨⟨v, rfl, hv⟩, hb5⟩
      have e5 := htp_one HLk.out HU.out hv
      subst e5
      have HB5 := boxed (below_step HB4.out (Nat.le_refl _) hb5)
      clear hv hb5 HRh s0 s1 s2 HS4
      unfold htW
      go_wp2_with fail
      go_ret
      exact ⟨rfl, HB5.out⟩

set_option maxRecDepth 100000 in
theorem lifted (os : Os) (started : os.Started) (H : Type) (enc : TypeId × Value → H) :
    ReturnsInHanded {} Try.checked os 6 .any (Rows.locateHitsSpec.pre6 enc Try.prog Try.f6 Rows.locateHitsRow.domain false) (Rows.locateHitsSpec.post enc Try.prog Try.f6 false true false false) := by
  refine returnsInHanded_of_change_sized (C := Try.checked) own started (by kernel_rfl) Try.func6
    (ChangeSpec.witness6 (enc := enc) (C := Try.checked) false ⟨#[], #[.slice none 0 0, .slice none 0 0, .agg #[.int .i64 0, .int .i64 0, .int .i64 0]], []⟩ 8 (by kernel_rfl) (by kernel_rfl) (by kernel_rfl) (by kernel_rfl)) ?_
  intro W base args ds gs before hval0 hW hcnd hsz0 _
  have hval : ∀ (j : Nat) t v, Try.f6.params[j]? = some t → args[j]? = some v → Value.okWide Try.prog W .any base t v := hval0
  have hsz : (DataW.weightsEach Try.prog (Try.f6.params.toList ++ Rows.locateHitsSpec.plain.varTypes Try.prog) (ds ++ gs)).all (· ≤ reachBytes) = true := hsz0
  have hW' := hW
  obtain ⟨p, q, hA0, hV, rfl, hfz, hnd⟩ := hW
  have hA : DataW.TrodAll enc Try.prog W 0 (fun _ => true) true Try.f6.params.toList args.toList ds p := hA0
  rw [Try.params6] at hA hval hsz
  obtain ⟨v0, vs0, d0, ds0, p0, q0, hargs, rfl, rfl, h0, r0⟩ := trodAll_cons hA
  obtain ⟨v1, vs1, d1, ds1, p1, q1, rfl, rfl, rfl, h1, r1⟩ := trodAll_cons r0
  obtain ⟨v2, vs2, d2, ds2, p2, q2, rfl, rfl, rfl, h2, r2⟩ := trodAll_cons r1
  obtain ⟨rfl, rfl, rfl⟩ := trodAll_nil r2
  obtain rfl : args = #[v0, v1, v2] := by cases args; simp_all
  obtain ⟨rfl, rfl⟩ := trodVars_none hV
  obtain ⟨ao0, n0, cap0, rfl⟩ := okWide_slice Try.underlying38 (hval 0 38 v0 rfl rfl)
  have k0 := h0
  have lt0 : ∀ x ∈ p0, x.block < W.heap.size := by obtain ⟨m, hm⟩ := k0; exact DataW.trod_lt m _ _ _ hm
  obtain ⟨hn0, -, F0, hF0⟩ : (n0 ≤ cap0 ∧ cap0 * 80 ≤ 140737488351232) ∧ (ao0 = none → n0 = 0 ∧ cap0 = 0) ∧ ∃ F, StysAt (fun _ => True) W ao0 n0 F := by
    obtain ⟨fuel, hf⟩ := k0
    exact open_styles hf (fun n hn => by simpa using List.all_eq_true.1 hsz _ (DataW.weights_mem_each (j := 0) rfl rfl n hn))
  obtain ⟨ao1, n1, cap1, rfl⟩ := okWide_slice Try.underlying22 (hval 1 22 v1 rfl rfl)
  have k1 := h1
  have lt1 : ∀ x ∈ p1, x.block < W.heap.size := by obtain ⟨m, hm⟩ := k1; exact DataW.trod_lt m _ _ _ hm
  obtain ⟨hn1, P1, hP1⟩ : (n1 ≤ maxLen ∧ Sl ao1 cap1 n1) ∧ ∃ P, PgsR (fun _ => True) W ao1 n1 P := by
    obtain ⟨fuel, hf⟩ := k1
    exact open_pages hf (fun n hn => by simpa using List.all_eq_true.1 hsz _ (DataW.weights_mem_each (j := 1) rfl rfl n hn))
  have k2 := h2
  have lt2 : ∀ x ∈ p2, x.block < W.heap.size := by obtain ⟨m, hm⟩ := k2; exact DataW.trod_lt m _ _ _ hm
  obtain ⟨x2, y2, z2, rfl, hs2⟩ : ∃ x y z : Int, v2 = .agg #[.int .i64 x, .int .i64 y, .int .i64 z] ∧ I64 x ∧ I64 y ∧ I64 z := by
    obtain ⟨fuel, hf⟩ := k2
    exact spot15_value hf
  clear hA0 hval0
  refine (walk W ao0 n0 cap0 F0 hn0 hF0 ao1 n1 cap1 P1 hn1 hP1 x2 y2 z2 hs2).mono fun e W' ⟨he, hg⟩ => ?_
  subst he
  exact ⟨_, rfl, _, _, _, [], _, [], hW', trodAll_mk1 (shut_bool Try.underlying4 _), (trodAll_cons_mk (Below.trod laidOut (by kernel_rfl) (of_decide_eq_true (by kernel_rfl)) k0 hg lt0) (trodAll_cons_mk (Below.trod laidOut (by kernel_rfl) (of_decide_eq_true (by kernel_rfl)) k1 hg lt1) (trodAll_cons_mk (Below.trod laidOut (by kernel_rfl) (of_decide_eq_true (by kernel_rfl)) k2 hg lt2) trodAll_mk0))), rfl, hg.frame _, fun h => by cases h⟩

theorem proved : Rows.LocateHitsSaid :=
  OpenClaim.holds_of_wide 6 Try.f6 rfl rfl rfl rfl rfl rfl rfl ⟨rfl, rfl, rfl, rfl, rfl⟩ rfl rfl rfl rfl rfl (by kernel_rfl) Try.func6 (by kernel_rfl)
    (of_decide_eq_true (by kernel_rfl)) (by unfold Func.isWrapper; first | (rw [if_pos (by decide +kernel)]; kernel_rfl) | (rw [if_neg (by decide +kernel)]; exact ⟨rfl, rfl⟩))
    (fun os started H enc _ => lifted os started H enc)
#print axioms proved
end Go.Proofs.Ytcdcpmcjlchfgaa.locateHits
