/-
  For every pages, every byte's number and every page and line the law LocateLines answers true: the line that has the byte is told, and how many bytes are ahead of the line that is asked for.
  No condition besides the statement's own (pages that aren't few, or have lines that aren't tried, are let go by the law itself).
-/
import Derived.Test.YtcdcpmcjlchfgaaRows
import Derived.WalkKit
import Derived.ProofKit
import Derived.OpenShut
import Derived.SizedLaws
import Derived.ShutString
import Derived.ChangeOld
import Derived.Below
import Derived.Test.YtcdcpmcjlchfgaaLpd
import Derived.Test.YtcdcpmcjlchfgaaLpg
import Derived.Test.YtcdcpmcjlchfgaaLpq
import Derived.Test.YtcdcpmcjlchfgaaLpn
import Derived.Test.YtcdcpmcjlchfgaaLpr
import Derived.Deep.Cut
namespace Go.Proofs.Ytcdcpmcjlchfgaa.locateLines
open Go.ChangeShapes Go.WideShapes Go.ChangeAt Go.RowKit
open Go.ChangeMaps (open_string shut_string)
set_option linter.unusedVariables false
set_option linter.unusedSimpArgs false

theorem own : ownKnob Try.prog.godebug = none := by kernel_rfl
theorem laidOut : laidOutB Try.prog = true := by kernel_rfl

set_option maxRecDepth 100000 in
set_option maxHeartbeats 8000000 in
theorem walk (w : World) (ao0 : Option Addr) (n0 cap0 : Nat) (P0 : Nat → Pgv) (hn0 : n0 ≤ maxLen ∧ Sl ao0 cap0 n0) (hP0 : PgsR (fun _ => True) w ao0 n0 P0) (a1 : Int) (w1 : (Lit.int .i64 a1).wf = true) (x2 y2 : Int) (hx2 : I64 x2 ∧ I64 y2) :
    Calls Try.prog 3 #[.slice ao0 n0 cap0, .int .i64 a1, .agg #[.int .i64 x2, .int .i64 y2]] w fun e w' => e = .returned (.bool true) ∧ Below w.heap.size w w' := by
  have HAw := boxed (fun W => awake_any W)
  have HFw := boxed (fun W (hb : Below w.heap.size w W) => few_any (fun _ => True) ao0 n0 cap0 P0 W (hP0.below hb) hn0.1)
  have HLn := boxed (fun W (hb : Below w.heap.size w W) => line_any (fun _ => True) ao0 n0 cap0 P0 a1 W (hP0.below hb) hn0.1 (wf_i64 w1))
  have HP := boxed hP0
  have HN := boxed hn0
  have L1 := laid1 w (.cells #[.int .i64 x2, .int .i64 y2] 23)
  have HB0 : Box (Below w.heap.size w (w.alloc (.cells #[.int .i64 x2, .int .i64 y2] 23))) := boxed L1.2.1
  have HC : Box (∀ W, Below (w.alloc (.cells #[.int .i64 x2, .int .i64 y2] 23)).heap.size (w.alloc (.cells #[.int .i64 x2, .int .i64 y2] 23)) W → W.cell? ⟨w.heap.size, 0, none⟩ = some (.int .i64 x2) ∧ W.cell? ⟨w.heap.size, 1, none⟩ = some (.int .i64 y2)) := boxed (fun W hb => ⟨kept_first hb 0, kept_first hb 1⟩)
  obtain ⟨wc, hwc⟩ : ∃ wc, w.alloc (.cells #[.int .i64 x2, .int .i64 y2] 23) = wc := ⟨_, rfl⟩
  rw [hwc] at HB0 HC
  have HWC := boxed hwc
  clear hwc L1 hP0 hn0 w1
  go_enter Try.func3, Try.ntmps3
  go_upto_region 1 with (fail)
  rw [HWC.out]
  go_wp2_with fail
  refine (HAw.out _).mono ?_
  rintro e w1 ⟨rfl, hb1⟩
  have HB1 := boxed (below_step HB0.out (Nat.le_refl _) hb1)
  have HC1 := boxed (fun W (hb : Below w1.heap.size w1 W) => HC.out W (below_step hb1 (Nat.le_refl _) hb))
  clear hb1 HAw HC
  go_wp2_with fail
  refine (HFw.out _ HB1.out).mono ?_
  rintro e w2 ⟨⟨b, rfl, hb⟩, hb2⟩
  have HB2 := boxed (below_step HB1.out (Nat.le_refl _) hb2)
  have HC2 := boxed (fun W (hb : Below w2.heap.size w2 W) => HC1.out W (below_step hb2 (Nat.le_refl _) hb))
  have HBb := boxed hb
  clear hb hb2 HFw HC1
  cases b with
  | false =>
    go_wp2_with fail
    go_ret
    exact ⟨rfl, HB2.out⟩
  | true =>
    have hF := HBb.out (by first | rfl | trivial)
    have hsm := hF.small
    have HRl := boxed (fun W (hb : Below w.heap.size w W) => refline_any (fun _ => True) ao0 n0 cap0 P0 a1 W (HP.out.below hb) HN.out.1 hsm)
    have HSz := boxed (fun W (hb : Below w.heap.size w W) => size_any (fun _ => True) ao0 n0 cap0 P0 W (HP.out.below hb) HN.out.1 (by omega))
    have HBy := boxed (fun W (hb : Below w.heap.size w W) => rbytes_any (fun _ => True) ao0 n0 cap0 P0 W (HP.out.below hb) HN.out.1 hsm)
    have HOf := boxed (fun W (hb : Below w.heap.size w W) => offset_any (fun _ => True) ao0 n0 cap0 P0 x2 y2 W (HP.out.below hb) HN.out hsm)
    have HRo := boxed (fun W (hb : Below w.heap.size w W) => refoffset_any (fun _ => True) ao0 n0 cap0 P0 x2 y2 W (HP.out.below hb) HN.out.1 hsm)
    obtain ⟨A, B, hAB⟩ : ∃ A B, ofsV n0 P0 x2 y2 = .tuple #[.int .i64 A, .bool B] := by
      unfold ofsV
      split
      · exact ⟨_, _, rfl⟩
      · exact ⟨_, _, rfl⟩
    rw [hAB] at HOf HRo
    obtain ⟨Z, hZ⟩ : ∃ Z, psz P0 n0 = Z := ⟨_, rfl⟩
    rw [hZ] at HSz HBy hsm
    clear hF HBb hAB hZ HP HN
    go_wp2_with fail
    refine (HLn.out _ HB2.out).mono ?_
    rintro e w3 ⟨⟨r, rfl, hr⟩, hb3⟩
    have HR := boxed hr
    have HB3 := boxed (below_step HB2.out (Nat.le_refl _) hb3)
    have HC3 := boxed (fun W (hb : Below w3.heap.size w3 W) => HC2.out W (below_step hb3 (Nat.le_refl _) hb))
    clear hr hb3 HLn HC2
    obtain ⟨p3, k3, i3, b3, hT3⟩ : ∃ (p k i : Nat) (b : Bool), lnT r = .tuple #[.int .i64 (p : Nat), .int .i64 (k : Nat), .int .i64 (i : Nat), .bool b] ∧ lnW r = trV p k i b := by
      match r with
      | some (p, k, i) => exact ⟨p, k, i, true, rfl, rfl⟩
      | none => exact ⟨0, 0, 0, false, rfl, rfl⟩
    have HW3 := boxed hT3.2
    rw [hT3.1]
    clear hT3
    go_wp2_with fail
    refine (HRl.out _ HB3.out).mono ?_
    rintro e w4 ⟨⟨q, rfl, hq⟩, hb4⟩
    have hqr := lnr_one hq HR.out
    subst hqr
    rw [HW3.out]
    unfold trV
    have HB4 := boxed (below_step HB3.out (Nat.le_refl _) hb4)
    have HC4 := boxed (fun W (hb : Below w4.heap.size w4 W) => HC3.out W (below_step hb4 (Nat.le_refl _) hb))
    clear hq hb4 HRl HC3 HW3 HR
    have L4 := laid1 w4 (.cells #[.int .i64 (p3 : Int), .int .i64 (k3 : Int), .int .i64 (i3 : Int)] 29)
    have HB5 := boxed (below_step HB4.out (Nat.le_refl _) L4.2.1)
    have HC5 := boxed (fun W (hb : Below (w4.alloc (.cells #[.int .i64 (p3 : Int), .int .i64 (k3 : Int), .int .i64 (i3 : Int)] 29)).heap.size (w4.alloc (.cells #[.int .i64 (p3 : Int), .int .i64 (k3 : Int), .int .i64 (i3 : Int)] 29)) W) => HC4.out W (below_step L4.2.1 (Nat.le_refl _) hb))
    have HD5 := boxed (fun W (hb : Below (w4.alloc (.cells #[.int .i64 (p3 : Int), .int .i64 (k3 : Int), .int .i64 (i3 : Int)] 29)).heap.size (w4.alloc (.cells #[.int .i64 (p3 : Int), .int .i64 (k3 : Int), .int .i64 (i3 : Int)] 29)) W) => (⟨kept_first hb 0, kept_first hb 1, kept_first hb 2⟩ : W.cell? ⟨w4.heap.size, 0, none⟩ = some (.int .i64 (p3 : Int)) ∧ W.cell? ⟨w4.heap.size, 1, none⟩ = some (.int .i64 (k3 : Int)) ∧ W.cell? ⟨w4.heap.size, 2, none⟩ = some (.int .i64 (i3 : Int))))
    obtain ⟨w5, hw5⟩ : ∃ w5, w4.alloc (.cells #[.int .i64 (p3 : Int), .int .i64 (k3 : Int), .int .i64 (i3 : Int)] 29) = w5 := ⟨_, rfl⟩
    rw [hw5] at HB5 HC5 HD5
    have HW5 := boxed hw5
    clear hw5 L4 HC4
    obtain ⟨d0, d1, d2⟩ := HD5.out w5 (Below.refl _ _)
    go_upto_region 7 with (fail)
    rw [HW5.out]
    have hun : undef = Value.tuple #[] := rfl
    go_wp2_with fail
    refine (HSz.out _ HB5.out).mono ?_
    rintro e w6 ⟨rfl, hb6⟩
    have HB6 := boxed (below_step HB5.out (Nat.le_refl _) hb6)
    have HC6 := boxed (fun W (hb : Below w6.heap.size w6 W) => HC5.out W (below_step hb6 (Nat.le_refl _) hb))
    clear hb6 HSz HC5 HD5 d0 d1 d2
    go_wp2_with fail
    refine (HBy.out _ HB6.out).mono ?_
    rintro e w7 ⟨⟨ro, rc, l, rfl, -, -, -⟩, hb7⟩
    have HB7 := boxed (below_step HB6.out (Nat.le_refl _) hb7)
    have HC7 := boxed (fun W (hb : Below w7.heap.size w7 W) => HC6.out W (below_step hb7 (Nat.le_refl _) hb))
    clear hb7 HBy HC6
    obtain ⟨c0, c1⟩ := HC7.out w7 (Below.refl _ _)
    go_wp2_with fail
    refine (HOf.out _ HB7.out).mono ?_
    rintro e w8 ⟨rfl, hb8⟩
    have HB8 := boxed (below_step HB7.out (Nat.le_refl _) hb8)
    obtain ⟨c0, c1⟩ := HC7.out _ hb8
    clear hb8 HOf HC7
    go_wp2_with fail
    refine (HRo.out _ HB8.out).mono ?_
    rintro e w9 ⟨rfl, hw9⟩
    subst hw9
    clear HRo c0 c1
    go_wp2_with fail
    go_ret
    exact ⟨rfl, HB8.out⟩

set_option maxRecDepth 100000 in
theorem lifted (os : Os) (started : os.Started) (H : Type) (enc : TypeId × Value → H) :
    ReturnsInHanded {} Try.checked os 3 .any (Rows.locateLinesSpec.pre6 enc Try.prog Try.f3 Rows.locateLinesRow.domain false) (Rows.locateLinesSpec.post enc Try.prog Try.f3 false true false false) := by
  refine returnsInHanded_of_change_sized (C := Try.checked) own started (by kernel_rfl) Try.func3
    (ChangeSpec.witness6 (enc := enc) (C := Try.checked) false ⟨#[], #[.slice none 0 0, .int .i64 0, .agg #[.int .i64 0, .int .i64 0]], []⟩ 8 (by kernel_rfl) (by kernel_rfl) (by kernel_rfl) (by kernel_rfl)) ?_
  intro W base args ds gs before hval0 hW hcnd hsz0 _
  have hval : ∀ (j : Nat) t v, Try.f3.params[j]? = some t → args[j]? = some v → Value.okWide Try.prog W .any base t v := hval0
  have hsz : (DataW.weightsEach Try.prog (Try.f3.params.toList ++ Rows.locateLinesSpec.plain.varTypes Try.prog) (ds ++ gs)).all (· ≤ reachBytes) = true := hsz0
  have hW' := hW
  obtain ⟨p, q, hA0, hV, rfl, hfz, hnd⟩ := hW
  have hA : DataW.TrodAll enc Try.prog W 0 (fun _ => true) true Try.f3.params.toList args.toList ds p := hA0
  rw [Try.params3] at hA hval hsz
  obtain ⟨v0, vs0, d0, ds0, p0, q0, hargs, rfl, rfl, h0, r0⟩ := trodAll_cons hA
  obtain ⟨v1, vs1, d1, ds1, p1, q1, rfl, rfl, rfl, h1, r1⟩ := trodAll_cons r0
  obtain ⟨v2, vs2, d2, ds2, p2, q2, rfl, rfl, rfl, h2, r2⟩ := trodAll_cons r1
  obtain ⟨rfl, rfl, rfl⟩ := trodAll_nil r2
  obtain rfl : args = #[v0, v1, v2] := by cases args; simp_all
  obtain ⟨rfl, rfl⟩ := trodVars_none hV
  obtain ⟨ao0, n0, cap0, rfl⟩ := okWide_slice Try.underlying22 (hval 0 22 v0 rfl rfl)
  have k0 := h0
  have lt0 : ∀ x ∈ p0, x.block < W.heap.size := by obtain ⟨m, hm⟩ := k0; exact DataW.trod_lt m _ _ _ hm
  obtain ⟨hn0, P0, hP0⟩ : (n0 ≤ maxLen ∧ Sl ao0 cap0 n0) ∧ ∃ P, PgsR (fun _ => True) W ao0 n0 P := by
    obtain ⟨fuel, hf⟩ := k0
    exact open_pages hf (fun n hn => by simpa using List.all_eq_true.1 hsz _ (DataW.weights_mem_each (j := 0) rfl rfl n hn))
  obtain ⟨a1, rfl, rfl, rfl, w1⟩ := open_int Try.underlying3 (hval 1 3 v1 rfl rfl) h1
  have k2 := h2
  have lt2 : ∀ x ∈ p2, x.block < W.heap.size := by obtain ⟨m, hm⟩ := k2; exact DataW.trod_lt m _ _ _ hm
  obtain ⟨x2, y2, rfl, hx2⟩ : ∃ x y : Int, v2 = .agg #[.int .i64 x, .int .i64 y] ∧ (-9223372036854775808 ≤ x ∧ x ≤ 9223372036854775807) ∧ -9223372036854775808 ≤ y ∧ y ≤ 9223372036854775807 := by
    obtain ⟨fuel, hf⟩ := k2
    exact pair_value Try.underlying23 (by kernel_rfl) hf
  clear hA0 hval0
  refine (walk W ao0 n0 cap0 P0 hn0 hP0 a1 w1 x2 y2 hx2).mono fun e W' ⟨he, hg⟩ => ?_
  subst he
  exact ⟨_, rfl, _, _, _, [], _, [], hW', trodAll_mk1 (shut_bool Try.underlying4 _), (trodAll_cons_mk (Below.trod laidOut (by kernel_rfl) (of_decide_eq_true (by kernel_rfl)) k0 hg lt0) (trodAll_cons_mk (shut_int Try.underlying3 w1) (trodAll_cons_mk (Below.trod laidOut (by kernel_rfl) (of_decide_eq_true (by kernel_rfl)) k2 hg lt2) trodAll_mk0))), rfl, hg.frame _, fun h => by cases h⟩

theorem proved : Rows.LocateLinesSaid :=
  OpenClaim.holds_of_wide 3 Try.f3 rfl rfl rfl rfl rfl rfl rfl ⟨rfl, rfl, rfl, rfl, rfl⟩ rfl rfl rfl rfl rfl (by kernel_rfl) Try.func3 (by kernel_rfl)
    (of_decide_eq_true (by kernel_rfl)) (by unfold Func.isWrapper; first | (rw [if_pos (by decide +kernel)]; kernel_rfl) | (rw [if_neg (by decide +kernel)]; exact ⟨rfl, rfl⟩))
    (fun os started H enc _ => lifted os started H enc)
#print axioms proved
end Go.Proofs.Ytcdcpmcjlchfgaa.locateLines
