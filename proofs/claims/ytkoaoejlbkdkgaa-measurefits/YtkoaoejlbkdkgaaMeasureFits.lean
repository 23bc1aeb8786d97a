/-
  For any items, any two places and any width the statement MeasureFits of the program returns true: where the items are a paragraph's, and few, the line between the places is set as the document's answer has it; what was handed in is unchanged. No condition besides the statement's own.
-/
import Derived.Test.YtkoaoejlbkdkgaaRows
import Derived.WalkKit
import Derived.ProofKit
import Derived.OpenShut
import Derived.SizedLaws
import Derived.ShutString
import Derived.ChangeOld
import Derived.Below
import Derived.Test.YtkoaoejlbkdkgaaEy
import Derived.Test.YtkoaoejlbkdkgaaEl
import Derived.Lib.QuietBelow
import Derived.BigQuiet
namespace Go.Proofs.Ytkoaoejlbkdkgaa.measureFits
open Go.ChangeShapes Go.WideShapes Go.ChangeAt Go.RowKit
open Go.ChangeMaps (open_string shut_string)
set_option linter.unusedVariables false
set_option linter.unusedSimpArgs false

theorem own : ownKnob Try.prog.godebug = none := by kernel_rfl
theorem laidOut : laidOutB Try.prog = true := by kernel_rfl

set_option maxRecDepth 100000 in
set_option maxHeartbeats 8000000 in
theorem walk (w : World) (ao0 : Option Addr) (n0 cap0 : Nat) (I0 : Nat → Itm) (hn0 : n0 ≤ maxLen) (hI0 : ItsAt (fun _ => True) w ao0 n0 I0) (x1 y1 : Int) (hx1 : I64 x1 ∧ I64 y1) (a2 : Int) (w2 : (Lit.int .i64 a2).wf = true) :
    Calls Try.prog 7 #[.slice ao0 n0 cap0, .agg #[.int .i64 x1, .int .i64 y1], .int .i64 a2] w fun e w' => e = .returned (.bool true) ∧ Below w.heap.size w w' := by
  have hA := fun w => awake_any w
  have HI := boxed hI0
  have KF : Box (∀ W, Below (w.alloc (.cells #[.int .i64 x1, .int .i64 y1] 55)).heap.size (w.alloc (.cells #[.int .i64 x1, .int .i64 y1] 55)) W → (W.cell? ⟨w.heap.size, 0, none⟩ = some (.int .i64 x1) ∧ W.cell? ⟨w.heap.size, 1, none⟩ = some (.int .i64 y1)) ∧ Below w.heap.size w W) := boxed (fun W hb =>
    ⟨⟨kept_first hb 0, kept_first hb 1⟩, kept_below (Below.refl _ w) (Nat.le_refl _) hb⟩)
  unfold maxLen at hn0
  by_cases hg : n0 ≤ 400 ∧ rgt I0 n0 = true
  rotate_left
  · have hP := boxed (fun W (hb : Below w.heap.size w W) => para_none (fun _ => True) ao0 n0 cap0 I0 W (HI.out.below hb) (by unfold maxLen; omega) (by
      by_cases q : 400 < n0
      · exact .inl q
      · right
        cases e : rgt I0 n0 with
        | false => rfl
        | true => exact absurd ⟨by omega, e⟩ hg))
    clear hI0 hg
    go_enter Try.func7, Try.ntmps7
    go_wp2_with fail
    refine (hA _).mono ?_
    rintro e w1 ⟨rfl, hb1⟩
    have HB1 := boxed hb1
    clear hb1
    go_wp2_with fail
    refine (hP.out _ (KF.out _ HB1.out).2).mono ?_
    rintro e w2 ⟨rfl, hb2⟩
    have HB2 := boxed (below_step HB1.out (Nat.le_refl _) hb2)
    clear hb2
    go_wp2_with fail
    go_ret
    exact ⟨rfl, (KF.out _ HB2.out).2⟩
  have hP := boxed (fun W (hb : Below w.heap.size w W) => para_some (fun _ => True) ao0 n0 cap0 I0 W (HI.out.below hb) hg.1 hg.2)
  obtain ⟨h0, h1, -, hok⟩ := (rgt_iff I0 n0).1 hg.2
  clear hI0 hg
  by_cases u1 : a2 < -1099511627776
  · have t1 : decide (a2 < -1099511627776) = true := decide_eq_true u1
    go_enter Try.func7, Try.ntmps7
    go_wp2_with fail
    refine (hA _).mono ?_
    rintro e w1 ⟨rfl, hb1⟩
    have HB1 := boxed hb1
    clear hb1
    go_wp2_with fail
    refine (hP.out _ (KF.out _ HB1.out).2).mono ?_
    rintro e w2 ⟨pb, rfl, hPa, hb2⟩
    have HB2 := boxed (below_step HB1.out (Nat.le_refl _) hb2)
    clear hb2 hPa
    go_wp2_with fail
    go_ret
    exact ⟨rfl, (KF.out _ HB2.out).2⟩
  by_cases u2 : 1099511627776 < a2
  · have t1 : decide (1099511627776 < a2) = true := decide_eq_true u2
    have t2 : decide (a2 < -1099511627776) = false := decide_eq_false u1
    go_enter Try.func7, Try.ntmps7
    go_wp2_with fail
    refine (hA _).mono ?_
    rintro e w1 ⟨rfl, hb1⟩
    have HB1 := boxed hb1
    clear hb1
    go_wp2_with fail
    refine (hP.out _ (KF.out _ HB1.out).2).mono ?_
    rintro e w2 ⟨pb, rfl, hPa, hb2⟩
    have HB2 := boxed (below_step HB1.out (Nat.le_refl _) hb2)
    clear hb2 hPa
    go_wp2_with fail
    go_ret
    exact ⟨rfl, (KF.out _ HB2.out).2⟩
  have t1 : decide (a2 < -1099511627776) = false := decide_eq_false u1
  have t2 : decide (1099511627776 < a2) = false := decide_eq_false u2
  have hQ := fun w => eqlFit (setF (lin I0 n0 x1 y1) a2) (setF (lin I0 n0 x1 y1) a2) w
  rw [Ft.like_self] at hQ
  have hG := guardFit
  unfold Ft.val at hQ
  go_enter Try.func7, Try.ntmps7
  go_wp2_with fail
  refine (hA _).mono ?_
  rintro e w1 ⟨rfl, hb1⟩
  have HB1 := boxed hb1
  clear hb1
  go_wp2_with fail
  refine (hP.out _ (KF.out _ HB1.out).2).mono ?_
  rintro e w2 ⟨pb, rfl, hPa, hb2⟩
  have HB2 := boxed (below_step HB1.out (Nat.le_refl _) hb2)
  obtain ⟨⟨c0, c1⟩, hbw⟩ := KF.out _ HB2.out
  have hgr : Box (∀ d os, Calls Try.prog 28 #[.pointer (some ⟨pb, 0, none⟩), .int .i64 x1, .int .i64 y1, .int .i64 a2] (Go.Sort.grow (redrawn w2 d) os) fun e w'' => e = .returned (setF (lin I0 n0 x1 y1) a2).val ∧ ∃ p : Regrown, w'' = Go.Sort.grow (redrawn w2 p.1) p.2) := boxed (fun d os => Calls.regrown_of (pfit_any (hPa.below (below_regrown w2 d os)) h1 hok x1 y1 a2 (by omega)))
  have hgq : Box (∀ d os, Calls Try.prog 29 #[.slice ao0 n0 cap0, .int .i64 x1, .int .i64 y1, .int .i64 a2] (Go.Sort.grow (redrawn w2 d) os) fun e w'' => e = .returned (setF (lin I0 n0 x1 y1) a2).val ∧ ∃ p : Regrown, w'' = Go.Sort.grow (redrawn w2 p.1) p.2) := boxed (fun d os => Calls.regrown_of (reffit_any (fun _ => True) ao0 n0 cap0 I0 _ (HI.out.below (below_step hbw (Nat.le_refl _) (below_regrown w2 d os))) h1 hok x1 y1 a2 (by omega)))
  unfold Ft.val at hgr hgq
  generalize setF (lin I0 n0 x1 y1) a2 = F at *
  have v0 := cell_regrown c0
  have v1 := cell_regrown c1
  clear hb2 hPa c0 c1 hbw hA hP
  go_wp2_with fail
  refine wp_region_quiet_below (by kernel_rfl) (by kernel_rfl) ?_
  repeat (go_big_quiet_step (first | (go_at_call 28; exact hgr.out _ _) | (go_at_call 29; exact hgq.out _ _)))
  refine wpQuiet_nil ?_
  intro _ hw'
  obtain ⟨⟨dq, osq⟩, hw''⟩ := hw'
  subst hw''
  have HB6 := boxed (below_step HB2.out (Nat.le_refl _) (below_regrown w2 dq osq))
  clear v0 v1
  generalize Go.Sort.grow (redrawn w2 dq) osq = w5 at *
  go_wp2_with fail
  go_ret
  exact ⟨rfl, (KF.out _ HB6.out).2⟩

set_option maxRecDepth 100000 in
theorem lifted (os : Os) (started : os.Started) (H : Type) (enc : TypeId × Value → H) :
    ReturnsInHanded {} Try.checked os 7 .any (Rows.measureFitsSpec.pre6 enc Try.prog Try.f7 Rows.measureFitsRow.domain false) (Rows.measureFitsSpec.post enc Try.prog Try.f7 false true false false) := by
  refine returnsInHanded_of_change_sized (C := Try.checked) own started (by kernel_rfl) Try.func7
    (ChangeSpec.witness6 (enc := enc) (C := Try.checked) false ⟨#[], #[.slice none 0 0, .agg #[.int .i64 0, .int .i64 0], .int .i64 0], []⟩ 8 (by kernel_rfl) (by kernel_rfl) (by kernel_rfl) (by kernel_rfl)) ?_
  intro W base args ds gs before hval0 hW hcnd hsz0 _
  have hval : ∀ (j : Nat) t v, Try.f7.params[j]? = some t → args[j]? = some v → Value.okWide Try.prog W .any base t v := hval0
  have hsz : (DataW.weightsEach Try.prog (Try.f7.params.toList ++ Rows.measureFitsSpec.plain.varTypes Try.prog) (ds ++ gs)).all (· ≤ reachBytes) = true := hsz0
  have hW' := hW
  obtain ⟨p, q, hA0, hV, rfl, hfz, hnd⟩ := hW
  have hA : DataW.TrodAll enc Try.prog W 0 (fun _ => true) true Try.f7.params.toList args.toList ds p := hA0
  rw [Try.params7] at hA hval hsz
  obtain ⟨v0, vs0, d0, ds0, p0, q0, hargs, rfl, rfl, h0, r0⟩ := trodAll_cons hA
  obtain ⟨v1, vs1, d1, ds1, p1, q1, rfl, rfl, rfl, h1, r1⟩ := trodAll_cons r0
  obtain ⟨v2, vs2, d2, ds2, p2, q2, rfl, rfl, rfl, h2, r2⟩ := trodAll_cons r1
  obtain ⟨rfl, rfl, rfl⟩ := trodAll_nil r2
  obtain rfl : args = #[v0, v1, v2] := by cases args; simp_all
  obtain ⟨rfl, rfl⟩ := trodVars_none hV
  obtain ⟨ao0, n0, cap0, rfl⟩ := okWide_slice Try.underlying22 (hval 0 22 v0 rfl rfl)
  have k0 := h0
  have lt0 : ∀ x ∈ p0, x.block < W.heap.size := by obtain ⟨m, hm⟩ := k0; exact DataW.trod_lt m _ _ _ hm
  obtain ⟨hn0, I0, hI0⟩ : n0 ≤ maxLen ∧ ∃ I, ItsAt (fun _ => True) W ao0 n0 I := by
    obtain ⟨fuel, hf⟩ := k0
    exact open_items hf
  have k1 := h1
  have lt1 : ∀ x ∈ p1, x.block < W.heap.size := by obtain ⟨m, hm⟩ := k1; exact DataW.trod_lt m _ _ _ hm
  obtain ⟨x1, y1, rfl, hx1⟩ : ∃ x y : Int, v1 = .agg #[.int .i64 x, .int .i64 y] ∧ (-9223372036854775808 ≤ x ∧ x ≤ 9223372036854775807) ∧ -9223372036854775808 ≤ y ∧ y ≤ 9223372036854775807 := by
    obtain ⟨fuel, hf⟩ := k1
    exact pair_value Try.underlying55 (by kernel_rfl) hf
  obtain ⟨a2, rfl, rfl, rfl, w2⟩ := open_int Try.underlying3 (hval 2 3 v2 rfl rfl) h2
  clear hA0 hval0
  refine (walk W ao0 n0 cap0 I0 hn0 hI0 x1 y1 hx1 a2 w2).mono fun e W' ⟨he, hg⟩ => ?_
  subst he
  exact ⟨_, rfl, _, _, _, [], _, [], hW', trodAll_mk1 (shut_bool Try.underlying4 _), (trodAll_cons_mk (Below.trod laidOut (by kernel_rfl) (of_decide_eq_true (by kernel_rfl)) k0 hg lt0) (trodAll_cons_mk (Below.trod laidOut (by kernel_rfl) (of_decide_eq_true (by kernel_rfl)) k1 hg lt1) (trodAll_cons_mk (shut_int Try.underlying3 w2) trodAll_mk0))), rfl, hg.frame _, fun h => by cases h⟩

theorem proved : Rows.MeasureFitsSaid :=
  OpenClaim.holds_of_wide 7 Try.f7 rfl rfl rfl rfl rfl rfl rfl ⟨rfl, rfl, rfl, rfl, rfl⟩ rfl rfl rfl rfl rfl (by kernel_rfl) Try.func7 (by kernel_rfl)
    (of_decide_eq_true (by kernel_rfl)) (by unfold Func.isWrapper; first | (rw [if_pos (by decide +kernel)]; kernel_rfl) | (rw [if_neg (by decide +kernel)]; exact ⟨rfl, rfl⟩))
    (fun os started H enc _ => lifted os started H enc)
#print axioms proved
end Go.Proofs.Ytkoaoejlbkdkgaa.measureFits
