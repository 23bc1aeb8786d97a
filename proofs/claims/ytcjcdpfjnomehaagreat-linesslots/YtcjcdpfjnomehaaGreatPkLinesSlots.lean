/-
  For any lines, and whether they keep, the statement LinesSlots of the program returns true: lines are told to the pages with their heights, their places, how many they are, and whether they keep. No condition besides the statement's own.
-/
import Derived.Test.YtcjcdpfjnomehaaGreatRows
import Derived.WalkKit
import Derived.ProofKit
import Derived.OpenShut
import Derived.SizedLaws
import Derived.ShutString
import Derived.ChangeOld
import Derived.Below
import Derived.Test.YtcjcdpfjnomehaaGreatPk22
import Derived.Test.YtcjcdpfjnomehaaGreatPk26
import Derived.Test.YtcjcdpfjnomehaaGreatPk37
namespace Go.Proofs.YtcjcdpfjnomehaaGreat.linesSlots
open Go.ChangeShapes Go.WideShapes Go.ChangeAt Go.RowKit
open Go.ChangeMaps (open_string shut_string)
set_option linter.unusedVariables false
set_option linter.unusedSimpArgs false
theorem own : ownKnob Tryz.prog.godebug = none := by kernel_rfl
theorem laidOut : laidOutB Tryz.prog = true := by kernel_rfl
set_option maxRecDepth 100000 in
set_option maxHeartbeats 4000000 in
theorem walk (w : World) (ao0 : Option Addr) (n0 cap0 : Nat) (F0 : Nat → Lne) (hn0 : n0 ≤ maxLen) (hF0 : LnsAt (fun _ => True) w ao0 n0 F0 ∧ ∀ i, i < n0 → LneOk (F0 i)) (a1 : Bool) :
    Calls Tryz.prog 7 #[.slice ao0 n0 cap0, .bool a1] w fun e w' => e = .returned (.bool true) ∧ Below w.heap.size w w' := by
  have haw := awake10_any w
  have HH := boxed hF0.1
  unfold maxLen at hn0
  clear hF0
  by_cases hbig : 1000 < n0
  · have t1 : decide ((1000 : Int) < (n0 : Int)) = true := decide_eq_true (by omega)
    go_enter Tryz.func7, Tryz.ntmps7
    go_wp2_with fail
    refine haw.mono ?_
    rintro e w1 ⟨rfl, hb1⟩
    have HB1 := boxed hb1
    clear hb1 haw
    go_wp2_with fail
    go_ret
    exact ⟨rfl, HB1.out⟩
  · have t1 : decide ((1000 : Int) < (n0 : Int)) = false := decide_eq_false (by omega)
    go_enter Tryz.func7, Tryz.ntmps7
    go_wp2_with fail
    refine haw.mono ?_
    rintro e w1 ⟨rfl, hb1⟩
    have HB1 := boxed hb1
    have hsl := slots_any (fun _ => True) ao0 n0 cap0 F0 a1 w1 (HH.out.below hb1) (by omega)
    clear hb1 haw
    go_wp2_with fail
    refine hsl.mono ?_
    rintro e w2 ⟨so, sc, rfl, hS, hb2⟩
    have HS := boxed hS
    have HB2 := boxed (below_step HB1.out (Nat.le_refl _) hb2)
    clear hsl hS hb2 HB1
    have t2 : ((n0 : Int) != (n0 : Int)) = false := by simp
    have hn1 : n0 ≤ 1000 := by omega
    have hnq := neqSlot
    have hgu := guardSlot
    go_wp2_with fail
    go_loopw [6] (fun vi wr => ∃ i : Nat, i ≤ n0 ∧ vi = .int .i64 (i : Nat) ∧ Box (Below w2.heap.size w2 wr)) (fun vi _ => n0 - (intOf vi).toNat)
    case atStart => exact ⟨0, Nat.zero_le _, rfl, boxed (Below.refl _ _)⟩
    case round =>
      obtain ⟨i, hin, rfl, HI⟩ := hrel
      by_cases hlt : i < n0
      · obtain ⟨sb, hse, -, s0, s1, s2, s3⟩ := HS.out i hlt
        obtain ⟨-, b, off, e, -, -, -, -, -, c4, -⟩ := (HH.out.below (HB2.out.trans (HI.out.mono HB2.out.size))) i hlt
        subst hse
        subst e
        replace s0 := hold HI.out s0
        replace s1 := hold HI.out s1
        replace s2 := hold HI.out s2
        replace s3 := hold HI.out s3
        simp only at s0
        have hlt2 : (i : Int) < (n0 : Int) := by omega
        generalize (F0 i).h = hh at *
        go_wp2_with fail
        go_quiet (fail)
        have HI2 : Box (Below w2.heap.size w2 (wr.drewN nq)) := boxed (HI.out.trans (bel_drewN _ _ _))
        go_wp2_with fail
        go_roundw
        case rel => exact ⟨i + 1, by omega, by go_num, HI2⟩
        case measure => simp [intOf]; omega
      · obtain rfl : n0 = i := by omega
        go_wp2
        go_ret
        exact ⟨rfl, HB2.out.trans (HI.out.mono HB2.out.size)⟩
set_option maxRecDepth 100000 in
theorem lifted (os : Os) (started : os.Started) (H : Type) (enc : TypeId × Value → H) :
    ReturnsInHanded {} Tryz.checked os 7 .any (Rows.linesSlotsSpec.pre6 enc Tryz.prog Tryz.f7 Rows.linesSlotsRow.domain false) (Rows.linesSlotsSpec.post enc Tryz.prog Tryz.f7 false true false false) := by
  refine returnsInHanded_of_change_sized (C := Tryz.checked) own started (by kernel_rfl) Tryz.func7
    (ChangeSpec.witness6 (enc := enc) (C := Tryz.checked) false ⟨#[], #[.slice none 0 0, .bool false], []⟩ 8 (by kernel_rfl) (by kernel_rfl) (by kernel_rfl) (by kernel_rfl)) ?_
  intro W base args ds gs before hval0 hW hcnd hsz0 _
  have hval : ∀ (j : Nat) t v, Tryz.f7.params[j]? = some t → args[j]? = some v → Value.okWide Tryz.prog W .any base t v := hval0
  have hsz : (DataW.weightsEach Tryz.prog (Tryz.f7.params.toList ++ Rows.linesSlotsSpec.plain.varTypes Tryz.prog) (ds ++ gs)).all (· ≤ reachBytes) = true := hsz0
  have hW' := hW
  obtain ⟨p, q, hA0, hV, rfl, hfz, hnd⟩ := hW
  have hA : DataW.TrodAll enc Tryz.prog W 0 (fun _ => true) true Tryz.f7.params.toList args.toList ds p := hA0
  rw [Tryz.params7] at hA hval hsz
  obtain ⟨v0, vs0, d0, ds0, p0, q0, hargs, rfl, rfl, h0, r0⟩ := trodAll_cons hA
  obtain ⟨v1, vs1, d1, ds1, p1, q1, rfl, rfl, rfl, h1, r1⟩ := trodAll_cons r0
  obtain ⟨rfl, rfl, rfl⟩ := trodAll_nil r1
  obtain rfl : args = #[v0, v1] := by cases args; simp_all
  obtain ⟨rfl, rfl⟩ := trodVars_none hV
  obtain ⟨ao0, n0, cap0, rfl⟩ := okWide_slice Tryz.underlying32 (hval 0 32 v0 rfl rfl)
  have k0 := h0
  have lt0 : ∀ x ∈ p0, x.block < W.heap.size := by obtain ⟨m, hm⟩ := k0; exact DataW.trod_lt m _ _ _ hm
  obtain ⟨hn0, F0, hF0⟩ : n0 ≤ maxLen ∧ ∃ F, LnsAt (fun _ => True) W ao0 n0 F ∧ ∀ i, i < n0 → LneOk (F i) := by
    obtain ⟨fuel, hf⟩ := k0
    exact open_lines hf
  obtain ⟨a1, rfl, rfl, rfl⟩ := open_bool Tryz.underlying4 (hval 1 4 v1 rfl rfl) h1
  clear hA0 hval0
  refine (walk W ao0 n0 cap0 F0 hn0 hF0 a1).mono fun e W' ⟨he, hg⟩ => ?_
  subst he
  exact ⟨_, rfl, _, _, _, [], _, [], hW', trodAll_mk1 (shut_bool Tryz.underlying4 _), (trodAll_cons_mk (Below.trod laidOut (by kernel_rfl) (of_decide_eq_true (by kernel_rfl)) k0 hg lt0) (trodAll_cons_mk (shut_bool Tryz.underlying4 _) trodAll_mk0)), rfl, hg.frame _, fun h => by cases h⟩
theorem proved : Rows.LinesSlotsSaid :=
  OpenClaim.holds_of_wide 7 Tryz.f7 rfl rfl rfl rfl rfl rfl rfl ⟨rfl, rfl, rfl, rfl, rfl⟩ rfl rfl rfl rfl rfl (by kernel_rfl) Tryz.func7 (by kernel_rfl)
    (of_decide_eq_true (by kernel_rfl)) (by unfold Func.isWrapper; first | (rw [if_pos (by decide +kernel)]; kernel_rfl) | (rw [if_neg (by decide +kernel)]; exact ⟨rfl, rfl⟩))
    (fun os started H enc _ => lifted os started H enc)
#print axioms proved
end Go.Proofs.YtcjcdpfjnomehaaGreat.linesSlots
