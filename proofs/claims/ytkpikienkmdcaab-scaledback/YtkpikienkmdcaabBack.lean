/-
  Proved: for every two numbers of 64 bits the statement ScaledBack answers true: quotient times divisor and the rest are the number, the rest has the divisor's sign and is less than it; by nought there are none. No condition.
  (The frame of this text was written by the program proof-skeleton.mjs; the walk is ours.)
-/
import Derived.Test.YtkpikienkmdcaabRows
import Derived.WalkKit
import Derived.ProofKit
import Derived.OpenShut
import Derived.Test.YtkpikienkmdcaabA
import Derived.Deep.QuietTactic
import Derived.BigQuiet
namespace Go.Proofs.Ytkpikienkmdcaab.scaledBack
open Go.ChangeShapes Go.WideShapes Go.ChangeAt Go.RowKit
set_option linter.unusedVariables false      -- a walk need not use every 'w<i>' (that an integer argument fits its kind)

theorem own : ownKnob Try.prog.godebug = none := by kernel_rfl

/-! ### STEP 1: THE WALK: the Go text returns true. 'Grown w w'': the world has at most new blocks (Derived/RowKit3.lean). Part the cases AHEAD of 'go_enter' where a test parts the walk; take each callee by a contract of your own. -/
theorem walk (a0 : Int) (a1 : Int) (w0 : (Lit.int .i64 a0).wf = true) (w1 : (Lit.int .i64 a1).wf = true) (w : World) :
    Calls Try.prog 6 #[.int .i64 a0, .int .i64 a1] w fun e w' => e = .returned (.bool true) ∧ Grown w w' := by
  by_cases hb : a1 = 0
  · have e1 : dv a0 a1 = 0 := by simp [dv, hb]
    have e2 : md a0 a1 = 0 := by simp [md, hb]
    have e3 := nz_f a1 hb
    have hb' : (a1 == 0) = true := by simpa using hb
    clear hb w0 w1
    go_enter Try.func6, Try.ntmps6
    go_wp2_with fail
    refine (awake_any _).mono ?_
    rintro e w' ⟨rfl, n, rfl⟩
    go_wp2_with fail
    refine (div_any _ _ _).mono ?_
    rintro e w' ⟨rfl, n2, rfl⟩
    go_wp2_with fail
    refine (mod_any _ _ _).mono ?_
    rintro e w' ⟨rfl, n3, rfl⟩
    go_wp2_with fail
    go_ret
    exact ⟨rfl, Grown.refl _⟩
  · have e1 : dv a0 a1 = (cl a0).fdiv (cl a1) := by simp [dv, hb]
    have e2 : md a0 a1 = (cl a0).fmod (cl a1) := by simp [md, hb]
    have e3 := nz_t a1 hb
    have hb' : (a1 == 0) = false := by simpa using hb
    have hn : ¬ cl a1 = 0 := by rw [cl_zero]; exact hb
    obtain ⟨hs, hr⟩ := fd_spec (cl a0) (cl a1) hn
    have hx := cl_le a0
    have hy := cl_le a1
    have hq := fd_le (cl a0) (cl a1) 1152921504606846976 hn hx.1 hx.2
    have h1 : -4611686018427387904 ≤ (cl a0).fdiv (cl a1) * cl a1 ∧ (cl a0).fdiv (cl a1) * cl a1 ≤ 4611686018427387904 := by omega
    have h2 : ((cl a0).fdiv (cl a1) * cl a1 + (cl a0).fmod (cl a1) == cl a0) = true := by rw [← hs]; simp
    clear hb w0 w1 hs
    go_enter Try.func6, Try.ntmps6
    go_wp2_with fail
    refine (awake_any _).mono ?_
    rintro e w' ⟨rfl, n, rfl⟩
    go_wp2_with fail
    refine (div_any _ _ _).mono ?_
    rintro e w' ⟨rfl, n2, rfl⟩
    go_wp2_with fail
    refine (mod_any _ _ _).mono ?_
    rintro e w' ⟨rfl, n3, rfl⟩
    go_wp2_with fail
    refine (clamp_any _ _).mono ?_
    rintro e w' ⟨rfl, rfl⟩
    go_wp2_with fail
    refine (clamp_any _ _).mono ?_
    rintro e w' ⟨rfl, rfl⟩
    clear e1 e2 e3 hb'
    generalize (cl a0).fdiv (cl a1) = q at *
    generalize (cl a0).fmod (cl a1) = r at *
    generalize cl a0 = x at *
    generalize cl a1 = y at *
    rcases hr with ⟨hp, hr1, hr2⟩ | ⟨hp, hr1, hr2⟩
    · by_cases h0 : r = 0
      · have g : (r == 0) = true := by simpa using h0
        clear h0
        go_wp2_with fail
        go_ret
        exact ⟨rfl, Grown.refl _⟩
      · have g : (r == 0) = false := by simpa using h0
        clear h0
        go_wp2_with fail
        go_ret
        exact ⟨rfl, Grown.refl _⟩
    · by_cases h0 : r = 0
      · have g : (r == 0) = true := by simpa using h0
        clear h0
        go_wp2_with fail
        go_ret
        exact ⟨rfl, Grown.refl _⟩
      · have g : (r == 0) = false := by simpa using h0
        have g2 : r < 0 := by omega
        clear h0
        go_wp2_with fail
        go_ret
        exact ⟨rfl, Grown.refl _⟩

/-! ### THE ROW's STEP: WRITTEN OUT: LEAVE IT -/
set_option maxRecDepth 100000 in
theorem lifted (os : Os) (started : os.Started) (H : Type) (enc : TypeId × Value → H) :
    ReturnsInHanded {} Try.checked os 6 .any (Rows.scaledBackSpec.pre6 enc Try.prog Try.f6 Rows.scaledBackRow.domain false) (Rows.scaledBackSpec.post enc Try.prog Try.f6 false true false false) := by
  refine returnsInHanded_of_change (C := Try.checked) own started (by kernel_rfl) Try.func6
    (ChangeSpec.witness6 (enc := enc) (C := Try.checked) false ⟨#[], #[.int .i64 0, .int .i64 0], []⟩ 8 (by kernel_rfl) (by kernel_rfl) (by kernel_rfl) (by kernel_rfl)) ?_
  intro W base args ds gs before hval0 hW hcnd _
  have hval : ∀ (j : Nat) t v, Try.f6.params[j]? = some t → args[j]? = some v → Value.okWide Try.prog W .any base t v := hval0
  have hW' := hW
  obtain ⟨p, q, hA0, hV, rfl, hfz, hnd⟩ := hW
  have hA : DataW.TrodAll enc Try.prog W 0 (fun _ => true) true Try.f6.params.toList args.toList ds p := hA0
  rw [Try.params6] at hA hval
  obtain ⟨v0, vs0, d0, ds0, p0, q0, hargs, rfl, rfl, h0, r0⟩ := trodAll_cons hA
  obtain ⟨v1, vs1, d1, ds1, p1, q1, rfl, rfl, rfl, h1, r1⟩ := trodAll_cons r0
  obtain ⟨rfl, rfl, rfl⟩ := trodAll_nil r1
  obtain rfl : args = #[v0, v1] := by cases args; simp_all
  obtain ⟨rfl, rfl⟩ := trodVars_none hV
  obtain ⟨a0, rfl, rfl, rfl, w0⟩ := open_int Try.underlying3 (hval 0 3 v0 rfl rfl) h0
  obtain ⟨a1, rfl, rfl, rfl, w1⟩ := open_int Try.underlying3 (hval 1 3 v1 rfl rfl) h1
  clear hA0 hval0
  simp only [List.append_nil] at hW'
  refine (walk a0 a1 w0 w1 W).mono fun e W' ⟨he, hg⟩ => ?_
  subst he
  exact ⟨_, rfl, post_of_same (pa := []) (pv := []) hW' (fun _ _ _ => (trodAll_cons_mk (shut_bool Try.underlying4 _) trodAll_mk0)) (fun sp _ => (trodAll_cons_mk (shut_int Try.underlying3 w0) (trodAll_cons_mk (shut_int Try.underlying3 w1) trodAll_mk0))) (fun _ _ => rfl) rfl
    (hg.frame _) hg.2.1 (ok_one (by kernel_rfl) rfl (okWide_bool_mk Try.underlying4 _))⟩

theorem over : Rows.scaledBackRow.holds Try.pinned (OpenSpec.ofChange Rows.scaledBackSpec) :=
  OpenClaim.holds_of_wide 6 Try.f6 rfl rfl rfl rfl rfl rfl rfl ⟨rfl, rfl, rfl, rfl, rfl⟩ rfl rfl rfl rfl rfl (by kernel_rfl) Try.func6 (by kernel_rfl)
    (of_decide_eq_true (by kernel_rfl)) (by unfold Func.isWrapper; first | (rw [if_pos (by decide +kernel)]; kernel_rfl) | (rw [if_neg (by decide +kernel)]; exact ⟨rfl, rfl⟩))
    (fun os started H enc _ => lifted os started H enc)

/-- ████ THE STATEMENT ████ -/
theorem proved : Rows.ScaledBackSaid :=
  over
#print axioms proved
end Go.Proofs.Ytkpikienkmdcaab.scaledBack
