/-
  For any settings, any line that is to be paid for and any class ahead the statement MeasureCosts of the program returns true: Cost answers what the document's Cost does; what was handed in is unchanged. No condition besides the statement's own.
-/
import Derived.Test.YtkoaoejlbkdkgabRows
import Derived.WalkKit
import Derived.ProofKit
import Derived.OpenShut
import Derived.SizedLaws
import Derived.ShutString
import Derived.ChangeOld
import Derived.Below
import Derived.Test.YtkoaoejlbkdkgabEz
namespace Go.Proofs.Ytkoaoejlbkdkgab.measureCosts
open Go.ChangeShapes Go.WideShapes Go.ChangeAt Go.RowKit
open Go.ChangeMaps (open_string shut_string)
set_option linter.unusedVariables false
set_option linter.unusedSimpArgs false

theorem own : ownKnob Try.prog.godebug = none := by kernel_rfl
theorem laidOut : laidOutB Try.prog = true := by kernel_rfl

set_option maxRecDepth 100000 in
set_option maxHeartbeats 8000000 in
theorem walk (w : World) (s0 : Stg) (hs0 : I64 s0.t ∧ I64 s0.l ∧ I64 s0.a ∧ I64 s0.d ∧ I64 s0.z ∧ I64 s0.o ∧ I64 s0.i) (f1 : Ft) (x1 : Itm) (fl1 la1 : Bool) (hs1 : WayOk f1 x1) (a2 : Int) (w2 : (Lit.int .i64 a2).wf = true) :
    Calls Try.prog 3 #[s0.val, wayV f1 x1 fl1 la1, .int .i64 a2] w fun e w' => e = .returned (.bool true) ∧ Below w.heap.size w w' := by
  have hA := fun w => awake_any w
  obtain ⟨K1, K2, K3, K4⟩ := heap2 w (.cells #[.int .i64 s0.t, .int .i64 s0.l, .int .i64 s0.a, .int .i64 s0.d, .int .i64 s0.z, .int .i64 s0.o, .int .i64 s0.i] 23) (.cells #[.int .i64 f1.num, .int .i64 f1.den, .int .i64 f1.bad, .int .i64 f1.cls, .bool f1.over, .int .i64 x1.k, .int .i64 x1.w, .int .i64 x1.st, .int .i64 x1.sh, .bool x1.fill, .int .i64 x1.c, .bool x1.flag, .int .i64 x1.fr, .int .i64 x1.to, .bool fl1, .bool la1] 29)
  obtain ⟨wX, hwX⟩ : ∃ wX, (w.alloc (.cells #[.int .i64 s0.t, .int .i64 s0.l, .int .i64 s0.a, .int .i64 s0.d, .int .i64 s0.z, .int .i64 s0.o, .int .i64 s0.i] 23)).alloc (.cells #[.int .i64 f1.num, .int .i64 f1.den, .int .i64 f1.bad, .int .i64 f1.cls, .bool f1.over, .int .i64 x1.k, .int .i64 x1.w, .int .i64 x1.st, .int .i64 x1.sh, .bool x1.fill, .int .i64 x1.c, .bool x1.flag, .int .i64 x1.fr, .int .i64 x1.to, .bool fl1, .bool la1] 29) = wX := ⟨_, rfl⟩
  rw [hwX] at K1 K2 K3 K4
  have KF : Box (∀ W, Below wX.heap.size wX W → W.heap[w.heap.size]? = some (.cells #[.int .i64 s0.t, .int .i64 s0.l, .int .i64 s0.a, .int .i64 s0.d, .int .i64 s0.z, .int .i64 s0.o, .int .i64 s0.i] 23 (0, 0)) ∧ W.heap[w.heap.size + 1]? = some (.cells #[.int .i64 f1.num, .int .i64 f1.den, .int .i64 f1.bad, .int .i64 f1.cls, .bool f1.over, .int .i64 x1.k, .int .i64 x1.w, .int .i64 x1.st, .int .i64 x1.sh, .bool x1.fill, .int .i64 x1.c, .bool x1.flag, .int .i64 x1.fr, .int .i64 x1.to, .bool fl1, .bool la1] 29 (0, 0)) ∧ Below w.heap.size w W ∧ w.heap.size + 2 ≤ W.heap.size) := boxed (fun W hb =>
    ⟨(hb.block _ (by omega)).trans K1, (hb.block _ (by omega)).trans K2, below_step K3 (Nat.le_refl _) hb, by have := hb.size; omega⟩)
  replace hwX := boxed hwX
  clear K1 K2 K3
  unfold Stg.val wayV
  by_cases hr : (-1000 ≤ a2 ∧ a2 ≤ 1000) ∧ (-1000 ≤ f1.cls ∧ f1.cls ≤ 1000)
  · have hC := fun w => cost_any s0 f1 x1 a2 fl1 la1 w hr.1 hr.2
    have hR := fun w => refcost_any s0 f1 x1 a2 fl1 la1 w hr.1 hr.2
    have t0 : decide (a2 < -1000) = false := decide_eq_false (by omega)
    have t1 : decide (1000 < a2) = false := decide_eq_false (by omega)
    have t2 : decide (f1.cls < -1000) = false := decide_eq_false (by omega)
    have t3 : decide (1000 < f1.cls) = false := decide_eq_false (by omega)
    unfold Stg.val Ft.val Itm.val at hC hR
    generalize cst s0 f1 x1 a2 fl1 la1 = C at *
    clear hr
    go_enter Try.func3, Try.ntmps3
    go_wp2_with fail
    rw [hwX.out]
    refine (hA _).mono ?_
    rintro e w1 ⟨rfl, hb1⟩
    obtain ⟨L1, L2, -, hz1⟩ := KF.out _ hb1
    have HB1 := boxed hb1
    clear hb1
    have p0 := cell_of_row w1 w.heap.size 0 _ _ _ L1
    have p1 := cell_of_row w1 w.heap.size 1 _ _ _ L1
    have p2 := cell_of_row w1 w.heap.size 2 _ _ _ L1
    have p3 := cell_of_row w1 w.heap.size 3 _ _ _ L1
    have p4 := cell_of_row w1 w.heap.size 4 _ _ _ L1
    have p5 := cell_of_row w1 w.heap.size 5 _ _ _ L1
    have p6 := cell_of_row w1 w.heap.size 6 _ _ _ L1
    have q0 := cell_of_row w1 (w.heap.size + 1) 0 _ _ _ L2
    have q1 := cell_of_row w1 (w.heap.size + 1) 1 _ _ _ L2
    have q2 := cell_of_row w1 (w.heap.size + 1) 2 _ _ _ L2
    have q3 := cell_of_row w1 (w.heap.size + 1) 3 _ _ _ L2
    have q4 := cell_of_row w1 (w.heap.size + 1) 4 _ _ _ L2
    have q5 := cell_of_row w1 (w.heap.size + 1) 5 _ _ _ L2
    have q6 := cell_of_row w1 (w.heap.size + 1) 6 _ _ _ L2
    have q7 := cell_of_row w1 (w.heap.size + 1) 7 _ _ _ L2
    have q8 := cell_of_row w1 (w.heap.size + 1) 8 _ _ _ L2
    have q9 := cell_of_row w1 (w.heap.size + 1) 9 _ _ _ L2
    have q10 := cell_of_row w1 (w.heap.size + 1) 10 _ _ _ L2
    have q11 := cell_of_row w1 (w.heap.size + 1) 11 _ _ _ L2
    have q12 := cell_of_row w1 (w.heap.size + 1) 12 _ _ _ L2
    have q13 := cell_of_row w1 (w.heap.size + 1) 13 _ _ _ L2
    have q14 := cell_of_row w1 (w.heap.size + 1) 14 _ _ _ L2
    have q15 := cell_of_row w1 (w.heap.size + 1) 15 _ _ _ L2
    simp at p0 p1 p2 p3 p4 p5 p6 q0 q1 q2 q3 q4 q5 q6 q7 q8 q9 q10 q11 q12 q13 q14 q15
    clear L1 L2
    go_wp2_with fail
    refine (hC _).mono ?_
    rintro e w2 ⟨rfl, hb2⟩
    have HB2 := boxed (below_step HB1.out (Nat.le_refl _) hb2)
    clear hb2 p0 p1 p2 p3 p4 p5 p6 q0 q1 q2 q3 q4 q5 q6 q7 q8 q9 q10 q11 q12 q13 q14 q15 hC
    obtain ⟨L1, L2, -, hz2⟩ := KF.out _ HB2.out
    have p0 := cell_of_row w2 w.heap.size 0 _ _ _ L1
    have p1 := cell_of_row w2 w.heap.size 1 _ _ _ L1
    have p2 := cell_of_row w2 w.heap.size 2 _ _ _ L1
    have p3 := cell_of_row w2 w.heap.size 3 _ _ _ L1
    have p4 := cell_of_row w2 w.heap.size 4 _ _ _ L1
    have p5 := cell_of_row w2 w.heap.size 5 _ _ _ L1
    have p6 := cell_of_row w2 w.heap.size 6 _ _ _ L1
    have q0 := cell_of_row w2 (w.heap.size + 1) 0 _ _ _ L2
    have q1 := cell_of_row w2 (w.heap.size + 1) 1 _ _ _ L2
    have q2 := cell_of_row w2 (w.heap.size + 1) 2 _ _ _ L2
    have q3 := cell_of_row w2 (w.heap.size + 1) 3 _ _ _ L2
    have q4 := cell_of_row w2 (w.heap.size + 1) 4 _ _ _ L2
    have q5 := cell_of_row w2 (w.heap.size + 1) 5 _ _ _ L2
    have q6 := cell_of_row w2 (w.heap.size + 1) 6 _ _ _ L2
    have q7 := cell_of_row w2 (w.heap.size + 1) 7 _ _ _ L2
    have q8 := cell_of_row w2 (w.heap.size + 1) 8 _ _ _ L2
    have q9 := cell_of_row w2 (w.heap.size + 1) 9 _ _ _ L2
    have q10 := cell_of_row w2 (w.heap.size + 1) 10 _ _ _ L2
    have q11 := cell_of_row w2 (w.heap.size + 1) 11 _ _ _ L2
    have q12 := cell_of_row w2 (w.heap.size + 1) 12 _ _ _ L2
    have q13 := cell_of_row w2 (w.heap.size + 1) 13 _ _ _ L2
    have q14 := cell_of_row w2 (w.heap.size + 1) 14 _ _ _ L2
    have q15 := cell_of_row w2 (w.heap.size + 1) 15 _ _ _ L2
    simp at p0 p1 p2 p3 p4 p5 p6 q0 q1 q2 q3 q4 q5 q6 q7 q8 q9 q10 q11 q12 q13 q14 q15
    clear L1 L2
    go_wp2_with fail
    refine (hR _).mono ?_
    rintro e w3 ⟨rfl, hb3⟩
    have HB3 := boxed (below_step HB2.out (Nat.le_refl _) hb3)
    clear hb3
    go_wp2_with fail
    go_ret
    exact ⟨rfl, (KF.out _ HB3.out).2.2.1⟩
  · have hw : decide (a2 < -1000) = true ∨ (decide (a2 < -1000) = false ∧ decide (1000 < a2) = true) ∨ (decide (a2 < -1000) = false ∧ decide (1000 < a2) = false ∧ decide (f1.cls < -1000) = true) ∨ (decide (a2 < -1000) = false ∧ decide (1000 < a2) = false ∧ decide (f1.cls < -1000) = false ∧ decide (1000 < f1.cls) = true) := by
      simp; omega
    clear hr
    rcases hw with t0 | ⟨t0, t1⟩ | ⟨t0, t1, t2⟩ | ⟨t0, t1, t2, t3⟩
    all_goals
      go_enter Try.func3, Try.ntmps3
      go_wp2_with fail
      rw [hwX.out]
      refine (hA _).mono ?_
      rintro e w1 ⟨rfl, hb1⟩
      obtain ⟨L1, L2, -, hz1⟩ := KF.out _ hb1
      have HB1 := boxed hb1
      clear hb1
      have p0 := cell_of_row w1 w.heap.size 0 _ _ _ L1
      have p1 := cell_of_row w1 w.heap.size 1 _ _ _ L1
      have p2 := cell_of_row w1 w.heap.size 2 _ _ _ L1
      have p3 := cell_of_row w1 w.heap.size 3 _ _ _ L1
      have p4 := cell_of_row w1 w.heap.size 4 _ _ _ L1
      have p5 := cell_of_row w1 w.heap.size 5 _ _ _ L1
      have p6 := cell_of_row w1 w.heap.size 6 _ _ _ L1
      have q0 := cell_of_row w1 (w.heap.size + 1) 0 _ _ _ L2
      have q1 := cell_of_row w1 (w.heap.size + 1) 1 _ _ _ L2
      have q2 := cell_of_row w1 (w.heap.size + 1) 2 _ _ _ L2
      have q3 := cell_of_row w1 (w.heap.size + 1) 3 _ _ _ L2
      have q4 := cell_of_row w1 (w.heap.size + 1) 4 _ _ _ L2
      have q5 := cell_of_row w1 (w.heap.size + 1) 5 _ _ _ L2
      have q6 := cell_of_row w1 (w.heap.size + 1) 6 _ _ _ L2
      have q7 := cell_of_row w1 (w.heap.size + 1) 7 _ _ _ L2
      have q8 := cell_of_row w1 (w.heap.size + 1) 8 _ _ _ L2
      have q9 := cell_of_row w1 (w.heap.size + 1) 9 _ _ _ L2
      have q10 := cell_of_row w1 (w.heap.size + 1) 10 _ _ _ L2
      have q11 := cell_of_row w1 (w.heap.size + 1) 11 _ _ _ L2
      have q12 := cell_of_row w1 (w.heap.size + 1) 12 _ _ _ L2
      have q13 := cell_of_row w1 (w.heap.size + 1) 13 _ _ _ L2
      have q14 := cell_of_row w1 (w.heap.size + 1) 14 _ _ _ L2
      have q15 := cell_of_row w1 (w.heap.size + 1) 15 _ _ _ L2
      simp at p0 p1 p2 p3 p4 p5 p6 q0 q1 q2 q3 q4 q5 q6 q7 q8 q9 q10 q11 q12 q13 q14 q15
      clear L1 L2
      go_wp2_with fail
      go_ret
      exact ⟨rfl, (KF.out _ HB1.out).2.2.1⟩

set_option maxRecDepth 100000 in
theorem lifted (os : Os) (started : os.Started) (H : Type) (enc : TypeId × Value → H) :
    ReturnsInHanded {} Try.checked os 3 .any (Rows.measureCostsSpec.pre6 enc Try.prog Try.f3 Rows.measureCostsRow.domain false) (Rows.measureCostsSpec.post enc Try.prog Try.f3 false true false false) := by
  refine returnsInHanded_of_change_sized (C := Try.checked) own started (by kernel_rfl) Try.func3
    (ChangeSpec.witness6 (enc := enc) (C := Try.checked) false ⟨#[], #[.agg #[.int .i64 0, .int .i64 0, .int .i64 0, .int .i64 0, .int .i64 0, .int .i64 0, .int .i64 0], .agg #[.int .i64 0, .int .i64 0, .int .i64 0, .int .i64 0, .bool false, .int .i64 0, .int .i64 0, .int .i64 0, .int .i64 0, .bool false, .int .i64 0, .bool false, .int .i64 0, .int .i64 0, .bool false, .bool false], .int .i64 0], []⟩ 8 (by kernel_rfl) (by kernel_rfl) (by kernel_rfl) (by kernel_rfl)) ?_
  intro W base args ds gs before hval0 hW hcnd hsz0 _
  have hval : ∀ (j : Nat) t v, Try.f3.params[j]? = some t → args[j]? = some v → Value.okWide Try.prog W .any base t v := hval0
  have hsz : (DataW.weightsEach Try.prog (Try.f3.params.toList ++ Rows.measureCostsSpec.plain.varTypes Try.prog) (ds ++ gs)).all (· ≤ reachBytes) = true := hsz0
  have hW' := hW
  obtain ⟨p, q, hA0, hV, rfl, hfz, hnd⟩ := hW
  have hA : DataW.TrodAll enc Try.prog W 0 (fun _ => true) true Try.f3.params.toList args.toList ds p := hA0
  rw [Try.params3] at hA hval hsz
  obtain ⟨v0, vs0, d0, ds0, p0, q0, hargs, rfl, rfl, h0, r0⟩ := trodAll_cons hA
  obtain ⟨v1, vs1, d1, ds1, p1, q1, rfl, rfl, rfl, h1, r1⟩ := trodAll_cons r0
  obtain ⟨v2, vs2, d2, ds2, p2, q2, rfl, rfl, rfl, h2, r2⟩ := trodAll_cons r1
  obtain ⟨rfl, rfl, rfl⟩ := trodAll_nil r2
  obtain rfl : args = #[v0, v1, v2] := by cases args; simp_all
  obtain ⟨rfl, rfl⟩ := trodVars_none hV
  have k0 := h0
  have lt0 : ∀ x ∈ p0, x.block < W.heap.size := by obtain ⟨m, hm⟩ := k0; exact DataW.trod_lt m _ _ _ hm
  obtain ⟨s0, rfl, hs0⟩ : ∃ x : Stg, v0 = x.val ∧ I64 x.t ∧ I64 x.l ∧ I64 x.a ∧ I64 x.d ∧ I64 x.z ∧ I64 x.o ∧ I64 x.i := by
    obtain ⟨fuel, hf⟩ := k0
    exact sett_value hf
  have k1 := h1
  have lt1 : ∀ x ∈ p1, x.block < W.heap.size := by obtain ⟨m, hm⟩ := k1; exact DataW.trod_lt m _ _ _ hm
  obtain ⟨f1, x1, fl1, la1, rfl, hs1⟩ : ∃ f x a b, v1 = wayV f x a b ∧ WayOk f x := by
    obtain ⟨fuel, hf⟩ := k1
    exact way_value hf
  obtain ⟨a2, rfl, rfl, rfl, w2⟩ := open_int Try.underlying3 (hval 2 3 v2 rfl rfl) h2
  clear hA0 hval0
  refine (walk W s0 hs0 f1 x1 fl1 la1 hs1 a2 w2).mono fun e W' ⟨he, hg⟩ => ?_
  subst he
  exact ⟨_, rfl, _, _, _, [], _, [], hW', trodAll_mk1 (shut_bool Try.underlying4 _), (trodAll_cons_mk (Below.trod laidOut (by kernel_rfl) (of_decide_eq_true (by kernel_rfl)) k0 hg lt0) (trodAll_cons_mk (Below.trod laidOut (by kernel_rfl) (of_decide_eq_true (by kernel_rfl)) k1 hg lt1) (trodAll_cons_mk (shut_int Try.underlying3 w2) trodAll_mk0))), rfl, hg.frame _, fun h => by cases h⟩

theorem proved : Rows.MeasureCostsSaid :=
  OpenClaim.holds_of_wide 3 Try.f3 rfl rfl rfl rfl rfl rfl rfl ⟨rfl, rfl, rfl, rfl, rfl⟩ rfl rfl rfl rfl rfl (by kernel_rfl) Try.func3 (by kernel_rfl)
    (of_decide_eq_true (by kernel_rfl)) (by unfold Func.isWrapper; first | (rw [if_pos (by decide +kernel)]; kernel_rfl) | (rw [if_neg (by decide +kernel)]; exact ⟨rfl, rfl⟩))
    (fun os started H enc _ => lifted os started H enc)
#print axioms proved
end Go.Proofs.Ytkoaoejlbkdkgab.measureCosts
