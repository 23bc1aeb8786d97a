/-
  For any sum and any width the statement MeasureSets of the program returns true: where the sum and the width are such as may be, Set answers what the document's Set does; what was handed in is unchanged. No condition besides the statement's own.
-/
import Derived.Test.YtkoaoejlbkdkgaaRows
import Derived.WalkKit
import Derived.ProofKit
import Derived.OpenShut
import Derived.SizedLaws
import Derived.ShutString
import Derived.ChangeOld
import Derived.Below
import Derived.Test.YtkoaoejlbkdkgaaEm
import Derived.Test.YtkoaoejlbkdkgaaEi
import Derived.Lib.QuietBelow
import Derived.BigQuiet
namespace Go.Proofs.Ytkoaoejlbkdkgaa.measureSets
open Go.ChangeShapes Go.WideShapes Go.ChangeAt Go.RowKit
open Go.ChangeMaps (open_string shut_string)
set_option linter.unusedVariables false
set_option linter.unusedSimpArgs false

theorem own : ownKnob Try.prog.godebug = none := by kernel_rfl
theorem laidOut : laidOutB Try.prog = true := by kernel_rfl

set_option maxRecDepth 100000 in
set_option maxHeartbeats 2000000 in
theorem walk (w : World) (s0 : Sm) (hs0 : I64 s0.w ∧ I64 s0.st ∧ I64 s0.sh ∧ I64 s0.f) (a1 : Int) (w1 : (Lit.int .i64 a1).wf = true) :
    Calls Try.prog 5 #[s0.val, .int .i64 a1] w fun e w' => e = .returned (.bool true) ∧ Below w.heap.size w w' := by
  have hA := fun w => awake_any w
  have hF := fun w => fair_any s0 a1 w
  have HFr : Box (frS s0 a1 = true → SmOk s0 a1 ∧ 0 ≤ s0.sh) := boxed (fun h => by
    simp [frS, wi] at h
    unfold SmOk
    omega)
  have KF : Box (∀ W, Below (w.alloc (.cells #[.int .i64 s0.w, .int .i64 s0.st, .int .i64 s0.sh, .int .i64 s0.f] 40)).heap.size (w.alloc (.cells #[.int .i64 s0.w, .int .i64 s0.st, .int .i64 s0.sh, .int .i64 s0.f] 40)) W →
      (W.cell? ⟨w.heap.size, 0, none⟩ = some (.int .i64 s0.w) ∧ W.cell? ⟨w.heap.size, 1, none⟩ = some (.int .i64 s0.st) ∧ W.cell? ⟨w.heap.size, 2, none⟩ = some (.int .i64 s0.sh) ∧ W.cell? ⟨w.heap.size, 3, none⟩ = some (.int .i64 s0.f)) ∧ Below w.heap.size w W ∧ w.heap.size < W.heap.size) := boxed (fun W hb =>
    ⟨⟨kept_first hb 0, kept_first hb 1, kept_first hb 2, kept_first hb 3⟩, kept_below (Below.refl _ w) (Nat.le_refl _) hb, by have := hb.size; simp at this; omega⟩)
  cases hk : frS s0 a1
  · rw [hk] at hF
    unfold Sm.val at hF ⊢
    go_enter Try.func5, Try.ntmps5
    go_wp2_with fail
    refine (hA _).mono ?_
    rintro e w1 ⟨rfl, hb1⟩
    obtain ⟨⟨c0, c1, c2, c3⟩, -, hz1⟩ := KF.out _ hb1
    have HB1 := boxed hb1
    clear hb1
    go_wp2_with fail
    refine (hF _).mono ?_
    rintro e w2 ⟨rfl, hb2⟩
    have HB2 := boxed (below_step HB1.out (Nat.le_refl _) hb2)
    clear hb2
    go_wp2_with fail
    go_ret
    exact ⟨rfl, (KF.out _ HB2.out).2.1⟩
  · rw [hk] at hF
    have hS := fun w => set_any s0 a1 w (HFr.out hk).1
    have hR := fun w => refset_any s0 a1 w (HFr.out hk).1 (HFr.out hk).2
    have hQ := fun w => eqlFit (setF s0 a1) (setF s0 a1) w
    rw [Ft.like_self] at hQ
    have hG := guardFit
    clear hk HFr
    unfold Sm.val at hF hS hR ⊢
    unfold Ft.val at hS hR hQ
    generalize setF s0 a1 = F at *
    go_enter Try.func5, Try.ntmps5
    go_wp2_with fail
    refine (hA _).mono ?_
    rintro e w1 ⟨rfl, hb1⟩
    obtain ⟨⟨c0, c1, c2, c3⟩, -, hz1⟩ := KF.out _ hb1
    have HB1 := boxed hb1
    clear hb1
    go_wp2_with fail
    refine (hF _).mono ?_
    rintro e w2 ⟨rfl, hb2⟩
    have HB2 := boxed (below_step HB1.out (Nat.le_refl _) hb2)
    clear hb2 c0 c1 c2 c3
    obtain ⟨⟨c0, c1, c2, c3⟩, -, hz2⟩ := KF.out _ HB2.out
    have hgr : Box (∀ d os, Calls Try.prog 26 #[.agg #[.int .i64 s0.w, .int .i64 s0.st, .int .i64 s0.sh, .int .i64 s0.f], .int .i64 a1] (Go.Sort.grow (redrawn w2 d) os) fun e w'' => e = .returned (.agg #[.int .i64 F.num, .int .i64 F.den, .int .i64 F.bad, .int .i64 F.cls, .bool F.over]) ∧ ∃ p : Regrown, w'' = Go.Sort.grow (redrawn w2 p.1) p.2) := boxed (fun d os => Calls.regrown_of (hS _))
    have hgq : Box (∀ d os, Calls Try.prog 27 #[.agg #[.int .i64 s0.w, .int .i64 s0.st, .int .i64 s0.sh, .int .i64 s0.f], .int .i64 a1] (Go.Sort.grow (redrawn w2 d) os) fun e w'' => e = .returned (.agg #[.int .i64 F.num, .int .i64 F.den, .int .i64 F.bad, .int .i64 F.cls, .bool F.over]) ∧ ∃ p : Regrown, w'' = Go.Sort.grow (redrawn w2 p.1) p.2) := boxed (fun d os => Calls.regrown_of (hR _))
    have v0 := cell_regrown c0
    have v1 := cell_regrown c1
    have v2 := cell_regrown c2
    have v3 := cell_regrown c3
    clear c0 c1 c2 c3 hS hR hA hF
    go_wp2_with fail
    refine wp_region_quiet_below (by kernel_rfl) (by kernel_rfl) ?_
    repeat (go_big_quiet_step (first | (go_at_call 26; exact hgr.out _ _) | (go_at_call 27; exact hgq.out _ _)))
    refine wpQuiet_nil ?_
    intro _ hw'
    obtain ⟨⟨dq, osq⟩, hw''⟩ := hw'
    subst hw''
    have HB6 := boxed (below_step HB2.out (Nat.le_refl _) (below_regrown w2 dq osq))
    clear v0 v1 v2 v3
    generalize Go.Sort.grow (redrawn w2 dq) osq = w5 at *
    go_wp2_with fail
    go_ret
    exact ⟨rfl, (KF.out _ HB6.out).2.1⟩

set_option maxRecDepth 100000 in
theorem lifted (os : Os) (started : os.Started) (H : Type) (enc : TypeId × Value → H) :
    ReturnsInHanded {} Try.checked os 5 .any (Rows.measureSetsSpec.pre6 enc Try.prog Try.f5 Rows.measureSetsRow.domain false) (Rows.measureSetsSpec.post enc Try.prog Try.f5 false true false false) := by
  refine returnsInHanded_of_change_sized (C := Try.checked) own started (by kernel_rfl) Try.func5
    (ChangeSpec.witness6 (enc := enc) (C := Try.checked) false ⟨#[], #[.agg #[.int .i64 0, .int .i64 0, .int .i64 0, .int .i64 0], .int .i64 0], []⟩ 8 (by kernel_rfl) (by kernel_rfl) (by kernel_rfl) (by kernel_rfl)) ?_
  intro W base args ds gs before hval0 hW hcnd hsz0 _
  have hval : ∀ (j : Nat) t v, Try.f5.params[j]? = some t → args[j]? = some v → Value.okWide Try.prog W .any base t v := hval0
  have hsz : (DataW.weightsEach Try.prog (Try.f5.params.toList ++ Rows.measureSetsSpec.plain.varTypes Try.prog) (ds ++ gs)).all (· ≤ reachBytes) = true := hsz0
  have hW' := hW
  obtain ⟨p, q, hA0, hV, rfl, hfz, hnd⟩ := hW
  have hA : DataW.TrodAll enc Try.prog W 0 (fun _ => true) true Try.f5.params.toList args.toList ds p := hA0
  rw [Try.params5] at hA hval hsz
  obtain ⟨v0, vs0, d0, ds0, p0, q0, hargs, rfl, rfl, h0, r0⟩ := trodAll_cons hA
  obtain ⟨v1, vs1, d1, ds1, p1, q1, rfl, rfl, rfl, h1, r1⟩ := trodAll_cons r0
  obtain ⟨rfl, rfl, rfl⟩ := trodAll_nil r1
  obtain rfl : args = #[v0, v1] := by cases args; simp_all
  obtain ⟨rfl, rfl⟩ := trodVars_none hV
  have k0 := h0
  have lt0 : ∀ x ∈ p0, x.block < W.heap.size := by obtain ⟨m, hm⟩ := k0; exact DataW.trod_lt m _ _ _ hm
  obtain ⟨s0, rfl, hs0⟩ : ∃ x : Sm, v0 = x.val ∧ I64 x.w ∧ I64 x.st ∧ I64 x.sh ∧ I64 x.f := by
    obtain ⟨fuel, hf⟩ := k0
    exact sum_value hf
  obtain ⟨a1, rfl, rfl, rfl, w1⟩ := open_int Try.underlying3 (hval 1 3 v1 rfl rfl) h1
  clear hA0 hval0
  refine (walk W s0 hs0 a1 w1).mono fun e W' ⟨he, hg⟩ => ?_
  subst he
  exact ⟨_, rfl, _, _, _, [], _, [], hW', trodAll_mk1 (shut_bool Try.underlying4 _), (trodAll_cons_mk (Below.trod laidOut (by kernel_rfl) (of_decide_eq_true (by kernel_rfl)) k0 hg lt0) (trodAll_cons_mk (shut_int Try.underlying3 w1) trodAll_mk0)), rfl, hg.frame _, fun h => by cases h⟩

theorem proved : Rows.MeasureSetsSaid :=
  OpenClaim.holds_of_wide 5 Try.f5 rfl rfl rfl rfl rfl rfl rfl ⟨rfl, rfl, rfl, rfl, rfl⟩ rfl rfl rfl rfl rfl (by kernel_rfl) Try.func5 (by kernel_rfl)
    (of_decide_eq_true (by kernel_rfl)) (by unfold Func.isWrapper; first | (rw [if_pos (by decide +kernel)]; kernel_rfl) | (rw [if_neg (by decide +kernel)]; exact ⟨rfl, rfl⟩))
    (fun os started H enc _ => lifted os started H enc)
#print axioms proved
end Go.Proofs.Ytkoaoejlbkdkgaa.measureSets
