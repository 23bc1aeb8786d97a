/-
  For any settings the statement MeasureChecks of the program returns true: Check answers OK just if the document's rule on settings holds, else ErrSettings, and Usual's settings may be; what was handed in is unchanged. No condition besides the statement's own.
-/
import Derived.Test.YtkoaoejlbkdkgaaRows
import Derived.WalkKit
import Derived.ProofKit
import Derived.OpenShut
import Derived.SizedLaws
import Derived.ShutString
import Derived.ChangeOld
import Derived.Below
import Derived.Test.YtkoaoejlbkdkgaaEm
namespace Go.Proofs.Ytkoaoejlbkdkgaa.measureChecks
open Go.ChangeShapes Go.WideShapes Go.ChangeAt Go.RowKit
open Go.ChangeMaps (open_string shut_string)
set_option linter.unusedVariables false
set_option linter.unusedSimpArgs false

theorem own : ownKnob Try.prog.godebug = none := by kernel_rfl
theorem laidOut : laidOutB Try.prog = true := by kernel_rfl

set_option maxRecDepth 100000 in
set_option maxHeartbeats 2000000 in
theorem walk (w : World) (s0 : Stg) (hs0 : I64 s0.t ∧ I64 s0.l ∧ I64 s0.a ∧ I64 s0.d ∧ I64 s0.z ∧ I64 s0.o ∧ I64 s0.i) :
    Calls Try.prog 8 #[s0.val] w fun e w' => e = .returned (.bool true) ∧ Below w.heap.size w w' := by
  have hA := fun w => awake_any w
  have hC := fun w => check_any s0 w
  have hR := fun w => refsett_any s0 w
  have hU := fun w => usual_any w
  have hC2 := fun w => check_any ⟨200, 10, 10000, 10000, 5000, 2, 2⟩ w
  have hok : okS ⟨200, 10, 10000, 10000, 5000, 2, 2⟩ = true := by decide
  rw [hok] at hC2
  simp only [if_true, Stg.val] at hC2
  clear hok
  have KF : Box (∀ W, Below (w.alloc (.cells #[.int .i64 s0.t, .int .i64 s0.l, .int .i64 s0.a, .int .i64 s0.d, .int .i64 s0.z, .int .i64 s0.o, .int .i64 s0.i] 60)).heap.size (w.alloc (.cells #[.int .i64 s0.t, .int .i64 s0.l, .int .i64 s0.a, .int .i64 s0.d, .int .i64 s0.z, .int .i64 s0.o, .int .i64 s0.i] 60)) W →
      (W.cell? ⟨w.heap.size, 0, none⟩ = some (.int .i64 s0.t) ∧ W.cell? ⟨w.heap.size, 1, none⟩ = some (.int .i64 s0.l) ∧ W.cell? ⟨w.heap.size, 2, none⟩ = some (.int .i64 s0.a) ∧ W.cell? ⟨w.heap.size, 3, none⟩ = some (.int .i64 s0.d) ∧ W.cell? ⟨w.heap.size, 4, none⟩ = some (.int .i64 s0.z) ∧ W.cell? ⟨w.heap.size, 5, none⟩ = some (.int .i64 s0.o) ∧ W.cell? ⟨w.heap.size, 6, none⟩ = some (.int .i64 s0.i)) ∧ Below w.heap.size w W) := boxed (fun W hb =>
    ⟨⟨kept_first hb 0, kept_first hb 1, kept_first hb 2, kept_first hb 3, kept_first hb 4, kept_first hb 5, kept_first hb 6⟩, kept_below (Below.refl _ w) (Nat.le_refl _) hb⟩)
  cases hk : okS s0
  all_goals
    rw [hk] at hC hR
    unfold Stg.val at hC hR ⊢
    simp at hC
    go_enter Try.func8, Try.ntmps8
    go_wp2_with fail
    refine (hA _).mono ?_
    rintro e w1 ⟨rfl, hb1⟩
    obtain ⟨⟨c0, c1, c2, c3, c4, c5, c6⟩, -⟩ := KF.out _ hb1
    have HB1 := boxed hb1
    clear hb1
    go_wp2_with fail
    refine (hC _).mono ?_
    rintro e w2 ⟨rfl, hb2⟩
    have HB2 := boxed (below_step HB1.out (Nat.le_refl _) hb2)
    clear hb2 c0 c1 c2 c3 c4 c5 c6 HB1
    obtain ⟨⟨c0, c1, c2, c3, c4, c5, c6⟩, -⟩ := KF.out _ HB2.out
    go_wp2_with fail
    refine (hR _).mono ?_
    rintro e w3 ⟨rfl, hb3⟩
    have HB3 := boxed (below_step HB2.out (Nat.le_refl _) hb3)
    clear hb3 c0 c1 c2 c3 c4 c5 c6 HB2
    obtain ⟨⟨c0, c1, c2, c3, c4, c5, c6⟩, -⟩ := KF.out _ HB3.out
    go_wp2_with fail
    refine (hR _).mono ?_
    rintro e w4 ⟨rfl, hb4⟩
    have HB4 := boxed (below_step HB3.out (Nat.le_refl _) hb4)
    clear hb4 c0 c1 c2 c3 c4 c5 c6 HB3
    obtain ⟨⟨c0, c1, c2, c3, c4, c5, c6⟩, -⟩ := KF.out _ HB4.out
    go_wp2_with fail
    refine (hU _).mono ?_
    rintro e w5 ⟨rfl, hb5⟩
    have HB5 := boxed (below_step HB4.out (Nat.le_refl _) hb5)
    clear hb5 c0 c1 c2 c3 c4 c5 c6 HB4
    obtain ⟨⟨c0, c1, c2, c3, c4, c5, c6⟩, -⟩ := KF.out _ HB5.out
    go_wp2_with fail
    refine (hC2 _).mono ?_
    rintro e w6 ⟨rfl, hb6⟩
    have HB6 := boxed (below_step HB5.out (Nat.le_refl _) hb6)
    clear hb6 c0 c1 c2 c3 c4 c5 c6 HB5
    obtain ⟨⟨c0, c1, c2, c3, c4, c5, c6⟩, -⟩ := KF.out _ HB6.out
    go_wp2_with fail
    go_ret
    exact ⟨rfl, (KF.out _ HB6.out).2⟩

set_option maxRecDepth 100000 in
theorem lifted (os : Os) (started : os.Started) (H : Type) (enc : TypeId × Value → H) :
    ReturnsInHanded {} Try.checked os 8 .any (Rows.measureChecksSpec.pre6 enc Try.prog Try.f8 Rows.measureChecksRow.domain false) (Rows.measureChecksSpec.post enc Try.prog Try.f8 false true false false) := by
  refine returnsInHanded_of_change_sized (C := Try.checked) own started (by kernel_rfl) Try.func8
    (ChangeSpec.witness6 (enc := enc) (C := Try.checked) false ⟨#[], #[.agg #[.int .i64 0, .int .i64 0, .int .i64 0, .int .i64 0, .int .i64 0, .int .i64 0, .int .i64 0]], []⟩ 8 (by kernel_rfl) (by kernel_rfl) (by kernel_rfl) (by kernel_rfl)) ?_
  intro W base args ds gs before hval0 hW hcnd hsz0 _
  have hval : ∀ (j : Nat) t v, Try.f8.params[j]? = some t → args[j]? = some v → Value.okWide Try.prog W .any base t v := hval0
  have hsz : (DataW.weightsEach Try.prog (Try.f8.params.toList ++ Rows.measureChecksSpec.plain.varTypes Try.prog) (ds ++ gs)).all (· ≤ reachBytes) = true := hsz0
  have hW' := hW
  obtain ⟨p, q, hA0, hV, rfl, hfz, hnd⟩ := hW
  have hA : DataW.TrodAll enc Try.prog W 0 (fun _ => true) true Try.f8.params.toList args.toList ds p := hA0
  rw [Try.params8] at hA hval hsz
  obtain ⟨v0, vs0, d0, ds0, p0, q0, hargs, rfl, rfl, h0, r0⟩ := trodAll_cons hA
  obtain ⟨rfl, rfl, rfl⟩ := trodAll_nil r0
  obtain rfl : args = #[v0] := by cases args; simp_all
  obtain ⟨rfl, rfl⟩ := trodVars_none hV
  have k0 := h0
  have lt0 : ∀ x ∈ p0, x.block < W.heap.size := by obtain ⟨m, hm⟩ := k0; exact DataW.trod_lt m _ _ _ hm
  obtain ⟨s0, rfl, hs0⟩ : ∃ x : Stg, v0 = x.val ∧ I64 x.t ∧ I64 x.l ∧ I64 x.a ∧ I64 x.d ∧ I64 x.z ∧ I64 x.o ∧ I64 x.i := by
    obtain ⟨fuel, hf⟩ := k0
    exact sett_value hf
  clear hA0 hval0
  refine (walk W s0 hs0).mono fun e W' ⟨he, hg⟩ => ?_
  subst he
  exact ⟨_, rfl, _, _, _, [], _, [], hW', trodAll_mk1 (shut_bool Try.underlying4 _), (trodAll_cons_mk (Below.trod laidOut (by kernel_rfl) (of_decide_eq_true (by kernel_rfl)) k0 hg lt0) trodAll_mk0), rfl, hg.frame _, fun h => by cases h⟩

theorem proved : Rows.MeasureChecksSaid :=
  OpenClaim.holds_of_wide 8 Try.f8 rfl rfl rfl rfl rfl rfl rfl ⟨rfl, rfl, rfl, rfl, rfl⟩ rfl rfl rfl rfl rfl (by kernel_rfl) Try.func8 (by kernel_rfl)
    (of_decide_eq_true (by kernel_rfl)) (by unfold Func.isWrapper; first | (rw [if_pos (by decide +kernel)]; kernel_rfl) | (rw [if_neg (by decide +kernel)]; exact ⟨rfl, rfl⟩))
    (fun os started H enc _ => lifted os started H enc)
#print axioms proved
end Go.Proofs.Ytkoaoejlbkdkgaa.measureChecks
