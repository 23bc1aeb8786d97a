/-
  For every bytes the law PiecesBegins answers true and leaves its argument as it was: a text is begun with them as they are, or refused for their first fault.
  (The frame of this text was written by the program proof-skeleton.mjs; the walk is ours.)
-/
import Derived.Test.YtfikmlgmklnlaaaRows
import Derived.WalkKit
import Derived.ProofKit
import Derived.OpenShut
import Derived.Test.YtfikmlgmklnlaaaWv
import Derived.ShutString
namespace Go.Proofs.Ytfikmlgmklnlaaa.piecesBegins
open Go.ChangeShapes Go.WideShapes Go.ChangeAt Go.RowKit
open Go.ChangeMaps (open_string shut_string)
set_option linter.unusedVariables false      -- a walk need not use every 'w<i>' (that an integer argument fits its kind)

theorem own : ownKnob Try.prog.godebug = none := by kernel_rfl

/-! ### STEP 1: THE WALK: the Go text returns true. 'Grown w w'': the world has at most new blocks (Derived/RowKit3.lean). Part the cases AHEAD of 'go_enter' where a test parts the walk; take each callee by a contract of your own. -/
set_option maxRecDepth 100000 in
set_option maxHeartbeats 1000000 in
theorem walk (a0 : ByteArray) (w0 : a0.size ≤ maxLen) (w : World) :
    Calls Try.prog 4 #[.string a0] w fun e w' => e = .returned (.bool true) ∧ Below w.heap.size w w' := by
  obtain ⟨N, hN⟩ := cnt_ex a0
  by_cases hbig : 65536 < a0.size
  · have d0 : decide ((65536 : Int) < (a0.size : Int)) = true := decide_eq_true (by omega)
    have hnb := fun w => new_bad a0 w N hN w0 (.inl hbig)
    rw [if_pos hbig] at hnb
    clear hN
    go_enter Try.func4, Try.ntmps4
    go_wp2_with fail
    refine (awake_any _).mono ?_
    rintro e w1 ⟨rfl, hb1⟩
    have HB1 := boxed hb1
    clear hb1
    go_wp2_with (go_at_call 16; refine (hnb _).mono ?_; rintro e w' ⟨rfl, hw'⟩; subst w')
    go_ret
    exact ⟨rfl, HB1.out⟩
  have d0 : decide ((65536 : Int) < (a0.size : Int)) = false := decide_eq_false (by omega)
  have hri := fun w => refright_any a0 w (by omega) N hN
  by_cases hbad : badAt a0 N < 0
  · have hnw := fun w => new_ok a0 w N hN (by omega) hbad
    rw [decide_eq_true hbad] at hri
    clear hN
    go_enter Try.func4, Try.ntmps4
    go_wp2_with fail
    refine (awake_any _).mono ?_
    rintro e w1 ⟨rfl, hb1⟩
    have HB1 := boxed hb1
    clear hb1
    go_wp2_with fail
    refine (hnw _).mono ?_
    rintro e w2 ⟨tb, x, T, rfl, k1, k2, k3, k4, k5⟩
    have HB2 := boxed (below_step HB1.out (Nat.le_refl _) k5)
    have hst := fun w' (hb : Below w2.heap.size w2 w') => string_any (k2.below hb)
    have hln := fun w' (hb : Below w2.heap.size w2 w') => len_any (k2.below hb)
    rw [k3, tx_bl] at hst
    rw [k3, bl_len] at hln
    clear k1 k2 k3 k4 k5 hnw
    go_wp2_with fail
    refine (hri _).mono ?_
    rintro e w3 ⟨rfl, hb3⟩
    have HB3 := boxed hb3
    clear hb3 hri
    go_wp2_with fail
    refine (hst _ HB3.out).mono ?_
    rintro e w4 ⟨rfl, hb4⟩
    have HB4 := boxed (below_step HB3.out (Nat.le_refl _) hb4)
    clear hb4 hst
    go_wp2_with fail
    refine (hln _ HB4.out).mono ?_
    rintro e w5 ⟨rfl, hb5⟩
    have HB5 := boxed (below_step HB4.out (Nat.le_refl _) hb5)
    clear hb5 hln
    go_wp2
    go_ret
    exact ⟨by simp, below_step HB2.out (Nat.le_refl _) HB5.out⟩
  · have hnb := fun w => new_bad a0 w N hN w0 (.inr hbad)
    rw [if_neg hbig] at hnb
    rw [decide_eq_false hbad] at hri
    clear hN
    go_enter Try.func4, Try.ntmps4
    go_wp2_with fail
    refine (awake_any _).mono ?_
    rintro e w1 ⟨rfl, hb1⟩
    have HB1 := boxed hb1
    clear hb1
    go_wp2_with (go_at_call 16; refine (hnb _).mono ?_; rintro e w' ⟨rfl, hw'⟩; subst w')
    refine (hri _).mono ?_
    rintro e w3 ⟨rfl, hb3⟩
    have HB3 := boxed (below_step HB1.out (Nat.le_refl _) hb3)
    clear hb3 hri
    go_wp2
    go_ret
    exact ⟨rfl, HB3.out⟩

/-! ### THE ROW's STEP: WRITTEN OUT: LEAVE IT -/
set_option maxRecDepth 100000 in
theorem lifted (os : Os) (started : os.Started) (H : Type) (enc : TypeId × Value → H) :
    ReturnsInHanded {} Try.checked os 4 .any (Rows.piecesBeginsSpec.pre6 enc Try.prog Try.f4 Rows.piecesBeginsRow.domain false) (Rows.piecesBeginsSpec.post enc Try.prog Try.f4 false true false false) := by
  refine returnsInHanded_of_change (C := Try.checked) own started (by kernel_rfl) Try.func4
    (ChangeSpec.witness6 (enc := enc) (C := Try.checked) false ⟨#[], #[.string ByteArray.empty], []⟩ 8 (by kernel_rfl) (by kernel_rfl) (by kernel_rfl) (by kernel_rfl)) ?_
  intro W base args ds gs before hval0 hW hcnd _
  have hval : ∀ (j : Nat) t v, Try.f4.params[j]? = some t → args[j]? = some v → Value.okWide Try.prog W .any base t v := hval0
  have hW' := hW
  obtain ⟨p, q, hA0, hV, rfl, hfz, hnd⟩ := hW
  have hA : DataW.TrodAll enc Try.prog W 0 (fun _ => true) true Try.f4.params.toList args.toList ds p := hA0
  rw [Try.params4] at hA hval
  obtain ⟨v0, vs0, d0, ds0, p0, q0, hargs, rfl, rfl, h0, r0⟩ := trodAll_cons hA
  obtain ⟨rfl, rfl, rfl⟩ := trodAll_nil r0
  obtain rfl : args = #[v0] := by cases args; simp_all
  obtain ⟨rfl, rfl⟩ := trodVars_none hV
  obtain ⟨a0, rfl, rfl, rfl, w0⟩ := open_string Try.underlying9 (hval 0 9 v0 rfl rfl) h0
  clear hA0 hval0
  simp only [List.append_nil] at hW'
  refine (walk a0 w0 W).mono fun e W' ⟨he, hg⟩ => ?_
  subst he
  exact ⟨_, rfl, _, _, _, [], [], [], hW', trodAll_mk1 (shut_bool Try.underlying4 _), (trodAll_cons_mk (shut_string Try.underlying9 w0) trodAll_mk0), rfl, hg.frame _, fun h => by cases h⟩

theorem over : Rows.piecesBeginsRow.holds Try.pinned (OpenSpec.ofChange Rows.piecesBeginsSpec) :=
  OpenClaim.holds_of_wide 4 Try.f4 rfl rfl rfl rfl rfl rfl rfl ⟨rfl, rfl, rfl, rfl, rfl⟩ rfl rfl rfl rfl rfl (by kernel_rfl) Try.func4 (by kernel_rfl)
    (of_decide_eq_true (by kernel_rfl)) (by unfold Func.isWrapper; first | (rw [if_pos (by decide +kernel)]; kernel_rfl) | (rw [if_neg (by decide +kernel)]; exact ⟨rfl, rfl⟩))
    (fun os started H enc _ => lifted os started H enc)

/-- ████ THE STATEMENT ████ -/
theorem proved : Rows.PiecesBeginsSaid :=
  over
#print axioms proved
end Go.Proofs.Ytfikmlgmklnlaaa.piecesBegins
