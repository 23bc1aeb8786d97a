/-
  For every text and every place the law RunesPlaces answers true and leaves its arguments as they were: Boundary of a right text of at most 4096 bytes is the document's own answer (of longer texts the law asks nothing).
  (The frame of this text was written by the program proof-skeleton.mjs; the walk is ours.)
-/
import Derived.Test.YtifehmifgapodaaRows
import Derived.WalkKit
import Derived.ProofKit
import Derived.OpenShut
import Derived.Test.YtifehmifgapodaaUh
import Derived.Test.YtifehmifgapodaaUn
import Derived.ShutString
namespace Go.Proofs.Ytifehmifgapodaa.runesPlaces
open Go.ChangeShapes Go.WideShapes Go.ChangeAt Go.RowKit
open Go.ChangeMaps (open_string shut_string)
set_option linter.unusedVariables false      -- a walk need not use every 'w<i>' (that an integer argument fits its kind)

theorem own : ownKnob Try.prog.godebug = none := by kernel_rfl

/-! ### STEP 1: THE WALK: the Go text returns true. 'Grown w w'': the world has at most new blocks (Derived/RowKit3.lean). Part the cases AHEAD of 'go_enter' where a test parts the walk; take each callee by a contract of your own. -/
theorem walk (a0 : ByteArray) (a1 : Int) (w0 : a0.size ≤ maxLen) (w1 : (Lit.int .i64 a1).wf = true) (w : World) :
    Calls Try.prog 5 #[.string a0, .int .i64 a1] w fun e w' => e = .returned (.bool true) ∧ Below w.heap.size w w' := by
  by_cases hbig : 4096 < a0.size
  · have d0 : decide ((4096 : Int) < (a0.size : Int)) = true := decide_eq_true (by omega)
    have d0' : decide (4096 < a0.size) = true := decide_eq_true hbig
    unfold maxLen at w0
    go_enter Try.func5, Try.ntmps5
    go_wp2_with fail
    refine (awake_any _).mono ?_
    rintro e w' ⟨rfl, hw'⟩
    subst w'
    go_wp2
    go_ret
    exact ⟨rfl, Below.refl _ _⟩
  have d0 : decide ((4096 : Int) < (a0.size : Int)) = false := decide_eq_false (by omega)
  have d0' : decide (4096 < a0.size) = false := decide_eq_false hbig
  obtain ⟨N, hN⟩ := cnt_ex a0
  have hri := refright_any a0 w (by omega) N hN
  have hB := badAt_cases a0 N
  have HT : Box (badAt a0 N = -1 → Right a0 N) := boxed (fun c => right_of a0 N hN (by omega))
  generalize badAt a0 N = B at *
  clear hN
  rcases hB with hB | hB
  · replace HT := boxed (HT.out hB)
    subst hB
    have hb1 := fun w => boundary_any a0 a1 w w0
    have hb2 := fun w => refboundary_any a0 a1 w (by omega) N HT.out
    generalize bnd a0 a1 = V at *
    go_enter Try.func5, Try.ntmps5
    go_wp2_with fail
    refine (awake_any _).mono ?_
    rintro e w' ⟨rfl, hw'⟩
    subst w'
    go_wp2_with fail
    refine hri.mono ?_
    rintro e w2 ⟨rfl, hb⟩
    have HB := boxed hb
    clear hb hri
    go_wp2_with fail
    refine (hb1 _).mono ?_
    rintro e w' ⟨rfl, hw'⟩
    subst w'
    go_wp2_with fail
    refine (hb2 _).mono ?_
    rintro e w3 ⟨rfl, hb⟩
    have HB2 := boxed hb
    clear hb hb1 hb2
    go_wp2
    go_ret
    exact ⟨by try simp, HB.out.trans (HB2.out.mono HB.out.size)⟩
  · have e1 : decide (B < 0) = false := decide_eq_false (by omega)
    rw [e1] at hri
    go_enter Try.func5, Try.ntmps5
    go_wp2_with fail
    refine (awake_any _).mono ?_
    rintro e w' ⟨rfl, hw'⟩
    subst w'
    go_wp2_with fail
    refine hri.mono ?_
    rintro e w2 ⟨rfl, hb⟩
    have HB := boxed hb
    clear hb hri
    go_wp2
    go_ret
    exact ⟨rfl, HB.out⟩

/-! ### THE ROW's STEP: WRITTEN OUT: LEAVE IT -/
set_option maxRecDepth 100000 in
theorem lifted (os : Os) (started : os.Started) (H : Type) (enc : TypeId × Value → H) :
    ReturnsInHanded {} Try.checked os 5 .any (Rows.runesPlacesSpec.pre6 enc Try.prog Try.f5 Rows.runesPlacesRow.domain false) (Rows.runesPlacesSpec.post enc Try.prog Try.f5 false true false false) := by
  refine returnsInHanded_of_change (C := Try.checked) own started (by kernel_rfl) Try.func5
    (ChangeSpec.witness6 (enc := enc) (C := Try.checked) false ⟨#[], #[.string ByteArray.empty, .int .i64 0], []⟩ 8 (by kernel_rfl) (by kernel_rfl) (by kernel_rfl) (by kernel_rfl)) ?_
  intro W base args ds gs before hval0 hW hcnd _
  have hval : ∀ (j : Nat) t v, Try.f5.params[j]? = some t → args[j]? = some v → Value.okWide Try.prog W .any base t v := hval0
  have hW' := hW
  obtain ⟨p, q, hA0, hV, rfl, hfz, hnd⟩ := hW
  have hA : DataW.TrodAll enc Try.prog W 0 (fun _ => true) true Try.f5.params.toList args.toList ds p := hA0
  rw [Try.params5] at hA hval
  obtain ⟨v0, vs0, d0, ds0, p0, q0, hargs, rfl, rfl, h0, r0⟩ := trodAll_cons hA
  obtain ⟨v1, vs1, d1, ds1, p1, q1, rfl, rfl, rfl, h1, r1⟩ := trodAll_cons r0
  obtain ⟨rfl, rfl, rfl⟩ := trodAll_nil r1
  obtain rfl : args = #[v0, v1] := by cases args; simp_all
  obtain ⟨rfl, rfl⟩ := trodVars_none hV
  obtain ⟨a0, rfl, rfl, rfl, w0⟩ := open_string Try.underlying9 (hval 0 9 v0 rfl rfl) h0
  obtain ⟨a1, rfl, rfl, rfl, w1⟩ := open_int Try.underlying3 (hval 1 3 v1 rfl rfl) h1
  clear hA0 hval0
  simp only [List.append_nil] at hW'
  refine (walk a0 a1 w0 w1 W).mono fun e W' ⟨he, hg⟩ => ?_
  subst he
  exact ⟨_, rfl, _, _, _, [], [], [], hW', trodAll_mk1 (shut_bool Try.underlying4 _), (trodAll_cons_mk (shut_string Try.underlying9 w0) (trodAll_cons_mk (shut_int Try.underlying3 w1) trodAll_mk0)), rfl, hg.frame _, fun h => by cases h⟩

theorem over : Rows.runesPlacesRow.holds Try.pinned (OpenSpec.ofChange Rows.runesPlacesSpec) :=
  OpenClaim.holds_of_wide 5 Try.f5 rfl rfl rfl rfl rfl rfl rfl ⟨rfl, rfl, rfl, rfl, rfl⟩ rfl rfl rfl rfl rfl (by kernel_rfl) Try.func5 (by kernel_rfl)
    (of_decide_eq_true (by kernel_rfl)) (by unfold Func.isWrapper; first | (rw [if_pos (by decide +kernel)]; kernel_rfl) | (rw [if_neg (by decide +kernel)]; exact ⟨rfl, rfl⟩))
    (fun os started H enc _ => lifted os started H enc)

/-- ████ THE STATEMENT ████ -/
theorem proved : Rows.RunesPlacesSaid :=
  over
#print axioms proved
end Go.Proofs.Ytifehmifgapodaa.runesPlaces
