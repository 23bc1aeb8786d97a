/-
  For every text the law RunesInside answers true and leaves its argument as it was: Inside tells which bytes are from 80 to BF, and a right text has as many runes as bytes that aren't.
  (The frame of this text was written by the program proof-skeleton.mjs; the walk is ours.)
-/
import Derived.Test.YtifehmifgapodabRows
import Derived.WalkKit
import Derived.ProofKit
import Derived.OpenShut
import Derived.Test.YtifehmifgapodabUg
import Derived.Test.YtifehmifgapodabUq
import Derived.ShutString
namespace Go.Proofs.Ytifehmifgapodab.runesInside
open Go.ChangeShapes Go.WideShapes Go.ChangeAt Go.RowKit
open Go.ChangeMaps (open_string shut_string)
set_option linter.unusedVariables false      -- a walk need not use every 'w<i>' (that an integer argument fits its kind)

theorem own : ownKnob Try.prog.godebug = none := by kernel_rfl

/-! ### STEP 1: THE WALK: the Go text returns true. 'Grown w w'': the world has at most new blocks (Derived/RowKit3.lean). Part the cases AHEAD of 'go_enter' where a test parts the walk; take each callee by a contract of your own. -/
theorem walk (a0 : ByteArray) (w0 : a0.size ≤ maxLen) (w : World) :
    Calls Try.prog 4 #[.string a0] w fun e w' => e = .returned (.bool true) ∧ Below w.heap.size w w' := by
  obtain ⟨N, hN⟩ := cnt_ex a0
  have hB := badAt_cases a0 N
  have hbad := fun w => bad_any a0 w w0 N hN
  have HT : Box (badAt a0 N = -1 → Right a0 N) := boxed (fun c => right_of a0 N hN (by omega))
  have hs := w0
  unfold maxLen at hs
  generalize badAt a0 N = B at *
  clear hN
  go_enter Try.func4, Try.ntmps4
  go_wp2_with fail
  refine (awake_any _).mono ?_
  rintro e w' ⟨rfl, hw'⟩
  subst w'
  go_wp2
  go_loopw [3, 4] (fun n i wr => ∃ k : Nat, k ≤ a0.size ∧ i = .int .i64 (k : Int) ∧ n = .int .i64 (outs a0 k : Int) ∧ Box (Below w.heap.size w wr)) (fun _ i _ => a0.size - (intOf i).toNat)
  case atStart => exact ⟨0, Nat.zero_le _, rfl, rfl, boxed (Below.refl _ _)⟩
  case round =>
    obtain ⟨k, hk, rfl, rfl, HB⟩ := hrel
    have hol := outs_le a0 k
    by_cases hlt : k < a0.size
    · have hix := idx a0 k hlt (k : Int) rfl
      have hbt := bt_lt a0 k hlt
      have HS := boxed (outs_succ a0 k)
      have HI := boxed (ins_nat (bt a0 k))
      generalize hc : bt a0 k = c at *
      have h3 : c < 128 ∨ (128 ≤ c ∧ c < 192) ∨ 192 ≤ c := by omega
      rcases h3 with h3 | h3 | h3
      · have hi : ins (c : Int) = false := ins_nf c (by omega)
        have HV : Box (outs a0 (k + 1) = outs a0 k + 1) := boxed (by rw [HS.out, if_neg (by rw [hi]; simp)])
        have d1 : decide ((128 : Int) ≤ (c : Int)) = false := decide_eq_false (by omega)
        have d1' : decide (128 ≤ c) = false := decide_eq_false (by omega)
        go_wp2_with (go_at_call 11; refine (inside_any _ _).mono ?_; rintro e w' ⟨rfl, hw'⟩; subst w')
        go_quiet ((go_at_call 11; exact Calls.quiet_of_same (inside_any _ _)))
        go_wp2
        go_roundw
        case rel => exact ⟨k + 1, by omega, by go_num, by rw [HV.out]; go_num, boxed (HB.out.trans (bel_drewN _ _ _))⟩
        case measure => simp [intOf]; omega
      · have hi : ins (c : Int) = true := (ins_nat c).2 h3
        have HV : Box (outs a0 (k + 1) = outs a0 k) := boxed (by rw [HS.out, if_pos hi]; rfl)
        have d1 : decide ((128 : Int) ≤ (c : Int)) = true := decide_eq_true (by omega)
        have d2 : decide ((c : Int) ≤ 191) = true := decide_eq_true (by omega)
        go_wp2_with (go_at_call 11; refine (inside_any _ _).mono ?_; rintro e w' ⟨rfl, hw'⟩; subst w')
        go_quiet ((go_at_call 11; exact Calls.quiet_of_same (inside_any _ _)))
        go_wp2
        go_roundw
        case rel => exact ⟨k + 1, by omega, by go_num, by rw [HV.out], boxed (HB.out.trans (bel_drewN _ _ _))⟩
        case measure => simp [intOf]; omega
      · have hi : ins (c : Int) = false := ins_nf c (by omega)
        have HV : Box (outs a0 (k + 1) = outs a0 k + 1) := boxed (by rw [HS.out, if_neg (by rw [hi]; simp)])
        have d1 : decide ((128 : Int) ≤ (c : Int)) = true := decide_eq_true (by omega)
        have d2 : decide ((c : Int) ≤ 191) = false := decide_eq_false (by omega)
        go_wp2_with (go_at_call 11; refine (inside_any _ _).mono ?_; rintro e w' ⟨rfl, hw'⟩; subst w')
        go_quiet ((go_at_call 11; exact Calls.quiet_of_same (inside_any _ _)))
        go_wp2
        go_roundw
        case rel => exact ⟨k + 1, by omega, by go_num, by rw [HV.out]; go_num, boxed (HB.out.trans (bel_drewN _ _ _))⟩
        case measure => simp [intOf]; omega
    · have hkN : k = a0.size := by omega
      rcases hB with hB | hB
      · have HR := boxed (HT.out hB)
        have hco := fun w => count_any a0 w w0 N HR.out
        have HO : Box (outs a0 k = N) := boxed (by rw [hkN]; exact outs_all a0 N HR.out)
        have eqo : ((N : Int) == (outs a0 k : Int)) = true := by rw [HO.out]; simp
        subst hB
        go_wp2_with fail
        refine (hbad _).mono ?_
        rintro e w' ⟨rfl, hw'⟩
        subst w'
        go_wp2_with fail
        refine (hco _).mono ?_
        rintro e w2 ⟨rfl, p, hw2⟩
        have HB2 : Box (Below w.heap.size w w2) := boxed (by rw [hw2]; exact HB.out.trans ((bel_iter wr a0 p).mono HB.out.size))
        clear hw2
        go_wp2
        go_ret
        exact ⟨by simp; rw [← hkN, HO.out], HB2.out⟩
      · have d3 : decide ((0 : Int) ≤ B) = true := decide_eq_true hB
        go_wp2_with fail
        refine (hbad _).mono ?_
        rintro e w' ⟨rfl, hw'⟩
        subst w'
        go_wp2
        go_ret
        exact ⟨by try simp, HB.out⟩

/-! ### THE ROW's STEP: WRITTEN OUT: LEAVE IT -/
set_option maxRecDepth 100000 in
theorem lifted (os : Os) (started : os.Started) (H : Type) (enc : TypeId × Value → H) :
    ReturnsInHanded {} Try.checked os 4 .any (Rows.runesInsideSpec.pre6 enc Try.prog Try.f4 Rows.runesInsideRow.domain false) (Rows.runesInsideSpec.post enc Try.prog Try.f4 false true false false) := by
  refine returnsInHanded_of_change (C := Try.checked) own started (by kernel_rfl) Try.func4
    (ChangeSpec.witness6 (enc := enc) (C := Try.checked) false ⟨#[], #[.string ByteArray.empty], []⟩ 8 (by kernel_rfl) (by kernel_rfl) (by kernel_rfl) (by kernel_rfl)) ?_
  intro W base args ds gs before hval0 hW hcnd _
  have hval : ∀ (j : Nat) t v, Try.f4.params[j]? = some t → args[j]? = some v → Value.okWide Try.prog W .any base t v := hval0
  have hW' := hW
  obtain ⟨p, q, hA0, hV, rfl, hfz, hnd⟩ := hW
  have hA : DataW.TrodAll enc Try.prog W 0 (fun _ => true) true Try.f4.params.toList args.toList ds p := hA0
  rw [Try.params4] at hA hval
  obtain ⟨v0, vs0, d0, ds0, p0, q0, hargs, rfl, rfl, h0, r0⟩ := trodAll_cons hA
  obtain ⟨rfl, rfl, rfl⟩ := trodAll_nil r0
  obtain rfl : args = #[v0] := by cases args; simp_all
  obtain ⟨rfl, rfl⟩ := trodVars_none hV
  obtain ⟨a0, rfl, rfl, rfl, w0⟩ := open_string Try.underlying9 (hval 0 9 v0 rfl rfl) h0
  clear hA0 hval0
  simp only [List.append_nil] at hW'
  refine (walk a0 w0 W).mono fun e W' ⟨he, hg⟩ => ?_
  subst he
  exact ⟨_, rfl, _, _, _, [], [], [], hW', trodAll_mk1 (shut_bool Try.underlying4 _), (trodAll_cons_mk (shut_string Try.underlying9 w0) trodAll_mk0), rfl, hg.frame _, fun h => by cases h⟩

theorem over : Rows.runesInsideRow.holds Try.pinned (OpenSpec.ofChange Rows.runesInsideSpec) :=
  OpenClaim.holds_of_wide 4 Try.f4 rfl rfl rfl rfl rfl rfl rfl ⟨rfl, rfl, rfl, rfl, rfl⟩ rfl rfl rfl rfl rfl (by kernel_rfl) Try.func4 (by kernel_rfl)
    (of_decide_eq_true (by kernel_rfl)) (by unfold Func.isWrapper; first | (rw [if_pos (by decide +kernel)]; kernel_rfl) | (rw [if_neg (by decide +kernel)]; exact ⟨rfl, rfl⟩))
    (fun os started H enc _ => lifted os started H enc)

/-- ████ THE STATEMENT ████ -/
theorem proved : Rows.RunesInsideSaid :=
  over
#print axioms proved
end Go.Proofs.Ytifehmifgapodab.runesInside
