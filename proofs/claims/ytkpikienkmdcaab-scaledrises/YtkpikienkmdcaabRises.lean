/-
  Proved: for every three numbers of 64 bits the statement ScaledRises answers true: badness lies between 0 and Worst, doesn't fall where more is asked nor where less is given, and is at least 100 just where as much is asked as given. No condition.
  (The frame of this text was written by the program proof-skeleton.mjs; the walk is ours.)
-/
import Derived.Test.YtkpikienkmdcaabRows
import Derived.WalkKit
import Derived.ProofKit
import Derived.OpenShut
import Derived.Test.YtkpikienkmdcaabRa
import Derived.ShutString
namespace Go.Proofs.Ytkpikienkmdcaab.scaledRises
open Go.ChangeShapes Go.WideShapes Go.ChangeAt Go.RowKit
open Go.ChangeMaps (open_string shut_string)
set_option linter.unusedVariables false      -- a walk need not use every 'w<i>' (that an integer argument fits its kind)

theorem own : ownKnob Try.prog.godebug = none := by kernel_rfl

/-! ### STEP 1: THE WALK: the Go text returns true. 'Grown w w'': the world has at most new blocks (Derived/RowKit3.lean). Part the cases AHEAD of 'go_enter' where a test parts the walk; take each callee by a contract of your own. -/
theorem walk (a0 : Int) (a1 : Int) (a2 : Int) (w0 : (Lit.int .i64 a0).wf = true) (w1 : (Lit.int .i64 a1).wf = true) (w2 : (Lit.int .i64 a2).wf = true) (w : World) :
    Calls Try.prog 3 #[.int .i64 a0, .int .i64 a1, .int .i64 a2] w fun e w' => e = .returned (.bool true) ∧ Below w.heap.size w w' := by
  clear w0 w1 w2
  have q1 := cl_le a0
  have q2 := cl_le a1
  have q3 := cl_le a2
  have hl := bd_le (cl a0) (cl a2)
  have d1 : decide (bd (cl a0) (cl a2) < 0) = false := by simp; omega
  have d2 : decide (10000 < bd (cl a0) (cl a2)) = false := by simp; omega
  by_cases hm : cl a1 < 0
  · have d3 : decide (cl a1 < 0) = true := by simpa using hm
    go_enter Try.func3, Try.ntmps3
    go_wp2_with fail
    refine (awake_any _).mono ?_
    rintro e w' ⟨rfl, n, rfl⟩
    go_wp2_with (go_at_call 8; refine (refclamp_any _ _).mono ?_; rintro e w' ⟨rfl, hw'⟩; subst w')
    refine (bad_any _ _ _).mono ?_
    rintro e w1 ⟨rfl, hb1⟩
    have HB1 : Hid (Below w.heap.size w w1) := (bel_drewN _ _ _).trans hb1
    clear hb1
    go_wp2_with fail
    go_ret
    exact ⟨rfl, HB1.out⟩
  · have d3 : decide (cl a1 < 0) = false := by simpa using hm
    have r1 : decide (bd (cl a0) (cl a2) ≤ bd (cl a0 + cl a1) (cl a2)) = true := by
      simpa using bd_up (cl a0) (cl a0 + cl a1) (cl a2) (by omega)
    have r2 : decide (bd (cl a0) (cl a2) ≤ bd (cl a0) (cl a2 - cl a1)) = true := by
      simpa using bd_down (cl a0) (cl a2) (cl a2 - cl a1) (by omega)
    by_cases c1 : cl a0 ≤ 0
    · have d4 : decide (cl a0 ≤ 0) = true := by simpa using c1
      clear hm
      go_enter Try.func3, Try.ntmps3
      go_wp2_with fail
      refine (awake_any _).mono ?_
      rintro e w' ⟨rfl, n, rfl⟩
      go_wp2_with (go_at_call 8; refine (refclamp_any _ _).mono ?_; rintro e w' ⟨rfl, hw'⟩; subst w')
      refine (bad_any _ _ _).mono ?_
      rintro e w1 ⟨rfl, hb1⟩
      have HB1 : Hid (Below w.heap.size w w1) := (bel_drewN _ _ _).trans hb1
      clear hb1
      go_wp2_with fail
      refine (bad_any _ _ _).mono ?_
      rintro e w2 ⟨rfl, hb2⟩
      have HB2 : Hid (Below w.heap.size w w2) := HB1.out.trans (hb2.mono HB1.out.size)
      clear hb2
      go_wp2_with fail
      refine (bad_any _ _ _).mono ?_
      rintro e w3 ⟨rfl, hb3⟩
      have HB3 : Hid (Below w.heap.size w w3) := HB2.out.trans (hb3.mono HB2.out.size)
      clear hb3
      go_wp2_with fail
      go_ret
      exact ⟨rfl, HB3.out⟩
    · have d4 : decide (cl a0 ≤ 0) = false := by simpa using c1
      by_cases c2 : cl a2 ≤ 0
      · have d5 : decide (cl a2 ≤ 0) = true := by simpa using c2
        clear hm
        go_enter Try.func3, Try.ntmps3
        go_wp2_with fail
        refine (awake_any _).mono ?_
        rintro e w' ⟨rfl, n, rfl⟩
        go_wp2_with (go_at_call 8; refine (refclamp_any _ _).mono ?_; rintro e w' ⟨rfl, hw'⟩; subst w')
        refine (bad_any _ _ _).mono ?_
        rintro e w1 ⟨rfl, hb1⟩
        have HB1 : Hid (Below w.heap.size w w1) := (bel_drewN _ _ _).trans hb1
        clear hb1
        go_wp2_with fail
        refine (bad_any _ _ _).mono ?_
        rintro e w2 ⟨rfl, hb2⟩
        have HB2 : Hid (Below w.heap.size w w2) := HB1.out.trans (hb2.mono HB1.out.size)
        clear hb2
        go_wp2_with fail
        refine (bad_any _ _ _).mono ?_
        rintro e w3 ⟨rfl, hb3⟩
        have HB3 : Hid (Below w.heap.size w w3) := HB2.out.trans (hb3.mono HB2.out.size)
        clear hb3
        go_wp2_with fail
        go_ret
        exact ⟨rfl, HB3.out⟩
      · have d5 : decide (cl a2 ≤ 0) = false := by simpa using c2
        have hh : (100 ≤ bd (cl a0) (cl a2)) ↔ cl a2 ≤ cl a0 := by
          have := bd_hundred (cl a0) (cl a2) (by rw [cl_cl]; omega) (by rw [cl_cl]; omega)
          rwa [cl_cl, cl_cl] at this
        have d6 : (decide (100 ≤ bd (cl a0) (cl a2)) == decide (cl a2 ≤ cl a0)) = true := by simpa using hh
        clear hm hh
        go_enter Try.func3, Try.ntmps3
        go_wp2_with fail
        refine (awake_any _).mono ?_
        rintro e w' ⟨rfl, n, rfl⟩
        go_wp2_with (go_at_call 8; refine (refclamp_any _ _).mono ?_; rintro e w' ⟨rfl, hw'⟩; subst w')
        refine (bad_any _ _ _).mono ?_
        rintro e w1 ⟨rfl, hb1⟩
        have HB1 : Hid (Below w.heap.size w w1) := (bel_drewN _ _ _).trans hb1
        clear hb1
        go_wp2_with fail
        refine (bad_any _ _ _).mono ?_
        rintro e w2 ⟨rfl, hb2⟩
        have HB2 : Hid (Below w.heap.size w w2) := HB1.out.trans (hb2.mono HB1.out.size)
        clear hb2
        go_wp2_with fail
        refine (bad_any _ _ _).mono ?_
        rintro e w3 ⟨rfl, hb3⟩
        have HB3 : Hid (Below w.heap.size w w3) := HB2.out.trans (hb3.mono HB2.out.size)
        clear hb3
        go_wp2_with fail
        go_ret
        exact ⟨rfl, HB3.out⟩

/-! ### THE ROW's STEP: WRITTEN OUT: LEAVE IT -/
set_option maxRecDepth 100000 in
theorem lifted (os : Os) (started : os.Started) (H : Type) (enc : TypeId × Value → H) :
    ReturnsInHanded {} Try.checked os 3 .any (Rows.scaledRisesSpec.pre6 enc Try.prog Try.f3 Rows.scaledRisesRow.domain false) (Rows.scaledRisesSpec.post enc Try.prog Try.f3 false true false false) := by
  refine returnsInHanded_of_change (C := Try.checked) own started (by kernel_rfl) Try.func3
    (ChangeSpec.witness6 (enc := enc) (C := Try.checked) false ⟨#[], #[.int .i64 0, .int .i64 0, .int .i64 0], []⟩ 8 (by kernel_rfl) (by kernel_rfl) (by kernel_rfl) (by kernel_rfl)) ?_
  intro W base args ds gs before hval0 hW hcnd _
  have hval : ∀ (j : Nat) t v, Try.f3.params[j]? = some t → args[j]? = some v → Value.okWide Try.prog W .any base t v := hval0
  have hW' := hW
  obtain ⟨p, q, hA0, hV, rfl, hfz, hnd⟩ := hW
  have hA : DataW.TrodAll enc Try.prog W 0 (fun _ => true) true Try.f3.params.toList args.toList ds p := hA0
  rw [Try.params3] at hA hval
  obtain ⟨v0, vs0, d0, ds0, p0, q0, hargs, rfl, rfl, h0, r0⟩ := trodAll_cons hA
  obtain ⟨v1, vs1, d1, ds1, p1, q1, rfl, rfl, rfl, h1, r1⟩ := trodAll_cons r0
  obtain ⟨v2, vs2, d2, ds2, p2, q2, rfl, rfl, rfl, h2, r2⟩ := trodAll_cons r1
  obtain ⟨rfl, rfl, rfl⟩ := trodAll_nil r2
  obtain rfl : args = #[v0, v1, v2] := by cases args; simp_all
  obtain ⟨rfl, rfl⟩ := trodVars_none hV
  obtain ⟨a0, rfl, rfl, rfl, w0⟩ := open_int Try.underlying3 (hval 0 3 v0 rfl rfl) h0
  obtain ⟨a1, rfl, rfl, rfl, w1⟩ := open_int Try.underlying3 (hval 1 3 v1 rfl rfl) h1
  obtain ⟨a2, rfl, rfl, rfl, w2⟩ := open_int Try.underlying3 (hval 2 3 v2 rfl rfl) h2
  clear hA0 hval0
  simp only [List.append_nil] at hW'
  refine (walk a0 a1 a2 w0 w1 w2 W).mono fun e W' ⟨he, hg⟩ => ?_
  subst he
  exact ⟨_, rfl, _, _, _, [], [], [], hW', trodAll_mk1 (shut_bool Try.underlying4 _), (trodAll_cons_mk (shut_int Try.underlying3 w0) (trodAll_cons_mk (shut_int Try.underlying3 w1) (trodAll_cons_mk (shut_int Try.underlying3 w2) trodAll_mk0))), rfl, hg.frame _, fun h => by cases h⟩

theorem over : Rows.scaledRisesRow.holds Try.pinned (OpenSpec.ofChange Rows.scaledRisesSpec) :=
  OpenClaim.holds_of_wide 3 Try.f3 rfl rfl rfl rfl rfl rfl rfl ⟨rfl, rfl, rfl, rfl, rfl⟩ rfl rfl rfl rfl rfl (by kernel_rfl) Try.func3 (by kernel_rfl)
    (of_decide_eq_true (by kernel_rfl)) (by unfold Func.isWrapper; first | (rw [if_pos (by decide +kernel)]; kernel_rfl) | (rw [if_neg (by decide +kernel)]; exact ⟨rfl, rfl⟩))
    (fun os started H enc _ => lifted os started H enc)

/-- ████ THE STATEMENT ████ -/
theorem proved : Rows.ScaledRisesSaid :=
  over
#print axioms proved
end Go.Proofs.Ytkpikienkmdcaab.scaledRises
