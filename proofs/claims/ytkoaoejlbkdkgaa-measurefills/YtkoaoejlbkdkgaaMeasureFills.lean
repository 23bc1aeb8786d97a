/-
  For any sum and any width the statement MeasureFills of the program returns true: where they are such as may be, and not great, what Set answers is within its bounds, is Over just where even all shrink doesn't do, and makes the line just as wide as it should be; what was handed in is unchanged. No condition besides the statement's own.
-/
import Derived.Test.YtkoaoejlbkdkgaaRows
import Derived.WalkKit
import Derived.ProofKit
import Derived.OpenShut
import Derived.SizedLaws
import Derived.ShutString
import Derived.ChangeOld
import Derived.Below
import Derived.Test.YtkoaoejlbkdkgaaEm
import Derived.Test.YtkoaoejlbkdkgaaEn
namespace Go.Proofs.Ytkoaoejlbkdkgaa.measureFills
open Go.ChangeShapes Go.WideShapes Go.ChangeAt Go.RowKit
open Go.ChangeMaps (open_string shut_string)
set_option linter.unusedVariables false
set_option linter.unusedSimpArgs false

theorem own : ownKnob Try.prog.godebug = none := by kernel_rfl
theorem laidOut : laidOutB Try.prog = true := by kernel_rfl

set_option maxRecDepth 100000 in
set_option maxHeartbeats 16000000 in
theorem walk (w : World) (s0 : Sm) (hs0 : I64 s0.w ∧ I64 s0.st ∧ I64 s0.sh ∧ I64 s0.f) (a1 : Int) (w1 : (Lit.int .i64 a1).wf = true) :
    Calls Try.prog 6 #[s0.val, .int .i64 a1] w fun e w' => e = .returned (.bool true) ∧ Below w.heap.size w w' := by
  have hA := fun w => awake_any w
  have hF := fun w => fair_any s0 a1 w
  have HFr : Box (frS s0 a1 = true → SmOk s0 a1 ∧ 0 ≤ s0.sh ∧ 0 ≤ s0.st) := boxed (fun h => by
    simp [frS, wi] at h
    unfold SmOk
    omega)
  have KF : Box (∀ W, Below (w.alloc (.cells #[.int .i64 s0.w, .int .i64 s0.st, .int .i64 s0.sh, .int .i64 s0.f] 40)).heap.size (w.alloc (.cells #[.int .i64 s0.w, .int .i64 s0.st, .int .i64 s0.sh, .int .i64 s0.f] 40)) W →
      (W.cell? ⟨w.heap.size, 0, none⟩ = some (.int .i64 s0.w) ∧ W.cell? ⟨w.heap.size, 1, none⟩ = some (.int .i64 s0.st) ∧ W.cell? ⟨w.heap.size, 2, none⟩ = some (.int .i64 s0.sh) ∧ W.cell? ⟨w.heap.size, 3, none⟩ = some (.int .i64 s0.f)) ∧ Below w.heap.size w W ∧ w.heap.size < W.heap.size) := boxed (fun W hb =>
    ⟨⟨kept_first hb 0, kept_first hb 1, kept_first hb 2, kept_first hb 3⟩, kept_below (Below.refl _ w) (Nat.le_refl _) hb, by have := hb.size; simp at this; omega⟩)
  cases hk : frS s0 a1
  · rw [hk] at hF
    unfold Sm.val at hF ⊢
    go_enter Try.func6, Try.ntmps6
    go_wp2_with fail
    refine (hA _).mono ?_
    rintro e w1 ⟨rfl, hb1⟩
    obtain ⟨⟨c0, c1, c2, c3⟩, -, hz1⟩ := KF.out _ hb1
    have HB1 := boxed hb1
    clear hb1
    go_wp2_with fail
    refine (hF _).mono ?_
    rintro e w2 ⟨rfl, hb2⟩
    have HB2 := boxed (below_step HB1.out (Nat.le_refl _) hb2)
    clear hb2 c0 c1 c2 c3
    obtain ⟨⟨c0, c1, c2, c3⟩, -, hz2⟩ := KF.out _ HB2.out
    go_wp2_with fail
    go_ret
    exact ⟨rfl, (KF.out _ HB2.out).2.1⟩
  rw [hk] at hF
  unfold Sm.val at hF ⊢
  by_cases t0 : 268435456 < s0.w
  · have u0 : decide (268435456 < s0.w) = true := decide_eq_true t0
    go_enter Try.func6, Try.ntmps6
    go_wp2_with fail
    refine (hA _).mono ?_
    rintro e w1 ⟨rfl, hb1⟩
    obtain ⟨⟨c0, c1, c2, c3⟩, -, hz1⟩ := KF.out _ hb1
    have HB1 := boxed hb1
    clear hb1
    go_wp2_with fail
    refine (hF _).mono ?_
    rintro e w2 ⟨rfl, hb2⟩
    have HB2 := boxed (below_step HB1.out (Nat.le_refl _) hb2)
    clear hb2 c0 c1 c2 c3
    obtain ⟨⟨c0, c1, c2, c3⟩, -, hz2⟩ := KF.out _ HB2.out
    go_wp2_with fail
    go_ret
    exact ⟨rfl, (KF.out _ HB2.out).2.1⟩
  have u0 : decide (268435456 < s0.w) = false := decide_eq_false t0
  by_cases t1 : s0.w < 0
  · have u1 : decide (s0.w < 0) = true := decide_eq_true t1
    go_enter Try.func6, Try.ntmps6
    go_wp2_with fail
    refine (hA _).mono ?_
    rintro e w1 ⟨rfl, hb1⟩
    obtain ⟨⟨c0, c1, c2, c3⟩, -, hz1⟩ := KF.out _ hb1
    have HB1 := boxed hb1
    clear hb1
    go_wp2_with fail
    refine (hF _).mono ?_
    rintro e w2 ⟨rfl, hb2⟩
    have HB2 := boxed (below_step HB1.out (Nat.le_refl _) hb2)
    clear hb2 c0 c1 c2 c3
    obtain ⟨⟨c0, c1, c2, c3⟩, -, hz2⟩ := KF.out _ HB2.out
    go_wp2_with fail
    go_ret
    exact ⟨rfl, (KF.out _ HB2.out).2.1⟩
  have u1 : decide (s0.w < 0) = false := decide_eq_false t1
  by_cases t2 : 268435456 < s0.st
  · have u2 : decide (268435456 < s0.st) = true := decide_eq_true t2
    go_enter Try.func6, Try.ntmps6
    go_wp2_with fail
    refine (hA _).mono ?_
    rintro e w1 ⟨rfl, hb1⟩
    obtain ⟨⟨c0, c1, c2, c3⟩, -, hz1⟩ := KF.out _ hb1
    have HB1 := boxed hb1
    clear hb1
    go_wp2_with fail
    refine (hF _).mono ?_
    rintro e w2 ⟨rfl, hb2⟩
    have HB2 := boxed (below_step HB1.out (Nat.le_refl _) hb2)
    clear hb2 c0 c1 c2 c3
    obtain ⟨⟨c0, c1, c2, c3⟩, -, hz2⟩ := KF.out _ HB2.out
    go_wp2_with fail
    go_ret
    exact ⟨rfl, (KF.out _ HB2.out).2.1⟩
  have u2 : decide (268435456 < s0.st) = false := decide_eq_false t2
  by_cases t3 : 268435456 < s0.sh
  · have u3 : decide (268435456 < s0.sh) = true := decide_eq_true t3
    go_enter Try.func6, Try.ntmps6
    go_wp2_with fail
    refine (hA _).mono ?_
    rintro e w1 ⟨rfl, hb1⟩
    obtain ⟨⟨c0, c1, c2, c3⟩, -, hz1⟩ := KF.out _ hb1
    have HB1 := boxed hb1
    clear hb1
    go_wp2_with fail
    refine (hF _).mono ?_
    rintro e w2 ⟨rfl, hb2⟩
    have HB2 := boxed (below_step HB1.out (Nat.le_refl _) hb2)
    clear hb2 c0 c1 c2 c3
    obtain ⟨⟨c0, c1, c2, c3⟩, -, hz2⟩ := KF.out _ HB2.out
    go_wp2_with fail
    go_ret
    exact ⟨rfl, (KF.out _ HB2.out).2.1⟩
  have u3 : decide (268435456 < s0.sh) = false := decide_eq_false t3
  by_cases t4 : 268435456 < a1
  · have u4 : decide (268435456 < a1) = true := decide_eq_true t4
    go_enter Try.func6, Try.ntmps6
    go_wp2_with fail
    refine (hA _).mono ?_
    rintro e w1 ⟨rfl, hb1⟩
    obtain ⟨⟨c0, c1, c2, c3⟩, -, hz1⟩ := KF.out _ hb1
    have HB1 := boxed hb1
    clear hb1
    go_wp2_with fail
    refine (hF _).mono ?_
    rintro e w2 ⟨rfl, hb2⟩
    have HB2 := boxed (below_step HB1.out (Nat.le_refl _) hb2)
    clear hb2 c0 c1 c2 c3
    obtain ⟨⟨c0, c1, c2, c3⟩, -, hz2⟩ := KF.out _ HB2.out
    go_wp2_with fail
    go_ret
    exact ⟨rfl, (KF.out _ HB2.out).2.1⟩
  have u4 : decide (268435456 < a1) = false := decide_eq_false t4
  by_cases t5 : a1 < 0
  · have u5 : decide (a1 < 0) = true := decide_eq_true t5
    go_enter Try.func6, Try.ntmps6
    go_wp2_with fail
    refine (hA _).mono ?_
    rintro e w1 ⟨rfl, hb1⟩
    obtain ⟨⟨c0, c1, c2, c3⟩, -, hz1⟩ := KF.out _ hb1
    have HB1 := boxed hb1
    clear hb1
    go_wp2_with fail
    refine (hF _).mono ?_
    rintro e w2 ⟨rfl, hb2⟩
    have HB2 := boxed (below_step HB1.out (Nat.le_refl _) hb2)
    clear hb2 c0 c1 c2 c3
    obtain ⟨⟨c0, c1, c2, c3⟩, -, hz2⟩ := KF.out _ HB2.out
    go_wp2_with fail
    go_ret
    exact ⟨rfl, (KF.out _ HB2.out).2.1⟩
  have u5 : decide (a1 < 0) = false := decide_eq_false t5
  have hS := fun w => set_any s0 a1 w (HFr.out hk).1
  have hN := HFr.out hk
  have hFa := set_facts s0 a1 (by omega) (by omega) (by omega) (by omega)
  clear hk HFr
  unfold Sm.val at hS
  unfold Ft.val at hS
  obtain ⟨F, hFe⟩ : ∃ F, setF s0 a1 = F := ⟨_, rfl⟩
  rw [hFe] at hFa hS
  clear hFe
  obtain ⟨nu, de, ba, cs, ov⟩ := F
  simp only at hFa hS
  obtain ⟨f1, f2, f3, f4, f5, f6⟩ := hFa
  go_enter Try.func6, Try.ntmps6
  go_wp2_with fail
  refine (hA _).mono ?_
  rintro e w1 ⟨rfl, hb1⟩
  obtain ⟨⟨c0, c1, c2, c3⟩, -, hz1⟩ := KF.out _ hb1
  have HB1 := boxed hb1
  clear hb1
  go_wp2_with fail
  refine (hF _).mono ?_
  rintro e w2 ⟨rfl, hb2⟩
  have HB2 := boxed (below_step HB1.out (Nat.le_refl _) hb2)
  clear hb2 c0 c1 c2 c3
  obtain ⟨⟨c0, c1, c2, c3⟩, -, hz2⟩ := KF.out _ HB2.out
  go_wp2_with fail
  refine (hS _).mono ?_
  rintro e w3 ⟨rfl, hb3⟩
  have HB3 := boxed (below_step HB2.out (Nat.le_refl _) hb3)
  clear hb3 c0 c1 c2 c3 hA hF hS
  obtain ⟨⟨c0, c1, c2, c3⟩, -, hz3⟩ := KF.out _ HB3.out
  have r1 : decide (de < 1) = false := decide_eq_false (by omega)
  have r2 : decide (ba < 0) = false := decide_eq_false (by omega)
  have r3 : decide (10000 < ba) = false := decide_eq_false (by omega)
  have r4 : decide (cs < 0) = false := decide_eq_false (by omega)
  have r5 : decide (3 < cs) = false := decide_eq_false (by omega)
  have hb : (-288230376151711744 ≤ (a1 - s0.w) * de ∧ (a1 - s0.w) * de ≤ 288230376151711744) := by
    have h1 : (a1 - s0.w) * de ≤ 268435456 * 268435456 := by
      by_cases c : 0 ≤ a1 - s0.w
      · exact Int.mul_le_mul (by omega) (by omega) (by omega) (by omega)
      · have : (a1 - s0.w) * de ≤ 0 := Int.mul_nonpos_of_nonpos_of_nonneg (by omega) (by omega)
        omega
    have h2 : -((a1 - s0.w) * de) ≤ 268435456 * 268435456 := by
      rw [← Int.neg_mul]
      by_cases c : 0 ≤ -(a1 - s0.w)
      · exact Int.mul_le_mul (by omega) (by omega) (by omega) (by omega)
      · have : -(a1 - s0.w) * de ≤ 0 := Int.mul_nonpos_of_nonpos_of_nonneg (by omega) (by omega)
        omega
    omega
  by_cases o : a1 < s0.w - s0.sh
  · have e : ov = true := by rw [f5]; exact decide_eq_true o
    subst e
    have r6 : decide (a1 < s0.w - s0.sh) = true := decide_eq_true o
    clear f5 f6
    go_wp2_with fail
    go_ret
    exact ⟨rfl, kept_below (KF.out _ HB3.out).2.1 (Nat.le_refl _) (Below.refl _ _)⟩
  have e : ov = false := by rw [f5]; exact decide_eq_false o
  subst e
  have r6 : decide (a1 < s0.w - s0.sh) = false := decide_eq_false o
  clear f5
  by_cases q : s0.w < a1 ∧ (0 < s0.f ∨ s0.st = 0)
  · obtain ⟨q1, q2⟩ := q
    by_cases q3 : 0 < s0.f
    · go_wp2_with fail
      go_ret
      exact ⟨rfl, kept_below (KF.out _ HB3.out).2.1 (Nat.le_refl _) (Below.refl _ _)⟩
    · have q4 : (s0.st == 0) = true := by simp; omega
      have r7 : decide (0 < s0.f) = false := decide_eq_false q3
      go_wp2_with fail
      go_ret
      exact ⟨rfl, kept_below (KF.out _ HB3.out).2.1 (Nat.le_refl _) (Below.refl _ _)⟩
  have f7 := f6 rfl q
  clear f6
  obtain ⟨M, hM⟩ : ∃ M, (a1 - s0.w) * de = M := ⟨_, rfl⟩
  rw [hM] at f7 hb
  by_cases q1 : s0.w < a1
  · have r7 : decide (0 < s0.f) = false := decide_eq_false (by omega)
    have r8 : (s0.st == 0) = false := by simp; omega
    clear q
    by_cases q2 : nu < 0
    · rw [if_pos q2] at f7
      have hM2 := f7.symm
      clear f7
      go_wp2_with fail
      go_ret
      exact ⟨rfl, kept_below (KF.out _ HB3.out).2.1 (Nat.le_refl _) (Below.refl _ _)⟩
    · rw [if_neg q2] at f7
      have hM2 := f7.symm
      clear f7
      go_wp2_with fail
      go_ret
      exact ⟨rfl, kept_below (KF.out _ HB3.out).2.1 (Nat.le_refl _) (Below.refl _ _)⟩
  · clear q
    by_cases q2 : nu < 0
    · rw [if_pos q2] at f7
      have hM2 := f7.symm
      clear f7
      go_wp2_with fail
      go_ret
      exact ⟨rfl, kept_below (KF.out _ HB3.out).2.1 (Nat.le_refl _) (Below.refl _ _)⟩
    · rw [if_neg q2] at f7
      have hM2 := f7.symm
      clear f7
      go_wp2_with fail
      go_ret
      exact ⟨rfl, kept_below (KF.out _ HB3.out).2.1 (Nat.le_refl _) (Below.refl _ _)⟩

set_option maxRecDepth 100000 in
theorem lifted (os : Os) (started : os.Started) (H : Type) (enc : TypeId × Value → H) :
    ReturnsInHanded {} Try.checked os 6 .any (Rows.measureFillsSpec.pre6 enc Try.prog Try.f6 Rows.measureFillsRow.domain false) (Rows.measureFillsSpec.post enc Try.prog Try.f6 false true false false) := by
  refine returnsInHanded_of_change_sized (C := Try.checked) own started (by kernel_rfl) Try.func6
    (ChangeSpec.witness6 (enc := enc) (C := Try.checked) false ⟨#[], #[.agg #[.int .i64 0, .int .i64 0, .int .i64 0, .int .i64 0], .int .i64 0], []⟩ 8 (by kernel_rfl) (by kernel_rfl) (by kernel_rfl) (by kernel_rfl)) ?_
  intro W base args ds gs before hval0 hW hcnd hsz0 _
  have hval : ∀ (j : Nat) t v, Try.f6.params[j]? = some t → args[j]? = some v → Value.okWide Try.prog W .any base t v := hval0
  have hsz : (DataW.weightsEach Try.prog (Try.f6.params.toList ++ Rows.measureFillsSpec.plain.varTypes Try.prog) (ds ++ gs)).all (· ≤ reachBytes) = true := hsz0
  have hW' := hW
  obtain ⟨p, q, hA0, hV, rfl, hfz, hnd⟩ := hW
  have hA : DataW.TrodAll enc Try.prog W 0 (fun _ => true) true Try.f6.params.toList args.toList ds p := hA0
  rw [Try.params6] at hA hval hsz
  obtain ⟨v0, vs0, d0, ds0, p0, q0, hargs, rfl, rfl, h0, r0⟩ := trodAll_cons hA
  obtain ⟨v1, vs1, d1, ds1, p1, q1, rfl, rfl, rfl, h1, r1⟩ := trodAll_cons r0
  obtain ⟨rfl, rfl, rfl⟩ := trodAll_nil r1
  obtain rfl : args = #[v0, v1] := by cases args; simp_all
  obtain ⟨rfl, rfl⟩ := trodVars_none hV
  have k0 := h0
  have lt0 : ∀ x ∈ p0, x.block < W.heap.size := by obtain ⟨m, hm⟩ := k0; exact DataW.trod_lt m _ _ _ hm
  obtain ⟨s0, rfl, hs0⟩ : ∃ x : Sm, v0 = x.val ∧ I64 x.w ∧ I64 x.st ∧ I64 x.sh ∧ I64 x.f := by
    obtain ⟨fuel, hf⟩ := k0
    exact sum_value hf
  obtain ⟨a1, rfl, rfl, rfl, w1⟩ := open_int Try.underlying3 (hval 1 3 v1 rfl rfl) h1
  clear hA0 hval0
  refine (walk W s0 hs0 a1 w1).mono fun e W' ⟨he, hg⟩ => ?_
  subst he
  exact ⟨_, rfl, _, _, _, [], _, [], hW', trodAll_mk1 (shut_bool Try.underlying4 _), (trodAll_cons_mk (Below.trod laidOut (by kernel_rfl) (of_decide_eq_true (by kernel_rfl)) k0 hg lt0) (trodAll_cons_mk (shut_int Try.underlying3 w1) trodAll_mk0)), rfl, hg.frame _, fun h => by cases h⟩

theorem proved : Rows.MeasureFillsSaid :=
  OpenClaim.holds_of_wide 6 Try.f6 rfl rfl rfl rfl rfl rfl rfl ⟨rfl, rfl, rfl, rfl, rfl⟩ rfl rfl rfl rfl rfl (by kernel_rfl) Try.func6 (by kernel_rfl)
    (of_decide_eq_true (by kernel_rfl)) (by unfold Func.isWrapper; first | (rw [if_pos (by decide +kernel)]; kernel_rfl) | (rw [if_neg (by decide +kernel)]; exact ⟨rfl, rfl⟩))
    (fun os started H enc _ => lifted os started H enc)
#print axioms proved
end Go.Proofs.Ytkoaoejlbkdkgaa.measureFills
