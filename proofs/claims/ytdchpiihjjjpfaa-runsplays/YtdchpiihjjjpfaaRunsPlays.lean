/-
  For every number, style and script the law RunsPlays answers true and leaves its arguments as they were: any calls leave each byte its style, and the runs are told as they are.
-/
import Derived.Test.YtdchpiihjjjpfaaRows
import Derived.WalkKit
import Derived.ProofKit
import Derived.OpenShut
import Derived.SizedLaws
import Derived.ShutString
import Derived.ChangeOld
import Derived.Below
import Derived.Test.YtdchpiihjjjpfaaLv
import Derived.Test.YtdchpiihjjjpfaaLz
import Derived.Test.YtdchpiihjjjpfaaKb
import Derived.Test.YtdchpiihjjjpfaaKc
namespace Go.Proofs.Ytdchpiihjjjpfaa.runsPlays
open Go.ChangeShapes Go.WideShapes Go.ChangeAt Go.RowKit
open Go.ChangeMaps (open_string shut_string)
set_option linter.unusedVariables false
set_option linter.unusedSimpArgs false

theorem own : ownKnob Try.prog.godebug = none := by kernel_rfl
theorem laidOut : laidOutB Try.prog = true := by kernel_rfl

set_option maxRecDepth 100000 in
set_option maxHeartbeats 2000000 in
theorem walk (w : World) (a0 : Int) (w0 : (Lit.int .i64 a0).wf = true) (a1 : Int) (w1 : (Lit.int .i64 a1).wf = true) (ao2 : Option Addr) (n2 cap2 : Nat) (O2 : Nat → Opr) (hn2 : n2 ≤ maxLen) (hO2 : OpsAt (fun _ => True) w ao2 n2 O2) :
    Calls Try.prog 3 #[.int .i64 a0, .int .i64 a1, .slice ao2 n2 cap2] w fun e w' => e = .returned (.bool true) ∧ Below w.heap.size w w' := by
  have hs := small_any a0 a1
  by_cases hsm : smb a0 a1 = true
  · obtain ⟨⟨q1, q2⟩, q3⟩ := (smb_iff _ _).1 hsm
    rw [hsm] at hs
    obtain ⟨n, rfl⟩ : ∃ n : Nat, a0 = n := ⟨a0.toNat, by omega⟩
    have hp := fun w' (hb : Below w.heap.size w w') => played_any n a1 (by omega) q3 ao2 n2 cap2 O2 w' hn2 (hO2.keep (fun k i u _ hc => ⟨trivial, hold hb hc⟩))
    have HP := boxed hp
    clear hp hsm hO2
    go_enter Try.func3, Try.ntmps3
    go_wp2_with fail
    refine (awake_any _).mono ?_
    rintro e w1 ⟨rfl, hb1⟩
    have HB1 := boxed hb1
    clear hb1
    go_wp2_with (go_at_call 10; refine (hs _).mono ?_; rintro e w1' ⟨rfl, hw'⟩; subst w1')
    refine (HP.out _ HB1.out).mono ?_
    rintro e w2 ⟨lb, b, off, cp, aL, capL, k, s, bare, -, -, -, rfl, hlb, hL, hr, hb2⟩
    have HB2 := boxed (below_step HB1.out (Nat.le_refl _) hb2)
    have HL2 := boxed hL
    have HR2 := boxed hr
    have hln := fun w' (hb : Below w2.heap.size w2 w') => len_any (hL.below hb)
    have hct := fun w' (hb : Below w2.heap.size w2 w') => count_any (hL.below hb)
    have hru := fun w' (hb : Below w2.heap.size w2 w') => runs_sh (hL.below hb)
    have hrr := fun w' (hb : Below w2.heap.size w2 w') => rruns_sh w' b off cp s (hr.below hb).cells hr.len hr.ok
    have hsa := fun B C w' v1 v2 => same_yes B C w' v1 v2 s hr.ok hr.len
    have HLN := boxed hln
    have HCT := boxed hct
    have HRU := boxed hru
    have HRR := boxed hrr
    have HSA := boxed hsa
    clear hL hr hb2 HP HL2 HR2 hln hct hru hrr hsa
    obtain ⟨wx, hwx⟩ : ∃ wx, w2.alloc (.cells #[.slice (some ⟨b, off, none⟩) s.length cp, .int .i64 bare] 28) = wx := ⟨_, rfl⟩
    have hbx : Below w2.heap.size w2 wx := by rw [← hwx]; exact (Below.refl _ _).alloc (Nat.le_refl _) _
    have hc0 : wx.cell? ⟨w2.heap.size, 0, none⟩ = some (.slice (some ⟨b, off, none⟩) s.length cp) := by rw [← hwx, cell_new _ _ _ _ _ rfl]; rfl
    have HX : Box (∀ W', Below wx.heap.size wx W' → W'.cell? ⟨w2.heap.size, 0, none⟩ = some (.slice (some ⟨b, off, none⟩) s.length cp)) := boxed (fun W' hb => hold hb hc0)
    have HW : Box (∀ W', Below wx.heap.size wx W' → Below w2.heap.size w2 W') := boxed (fun W' hb => below_step hbx (Nat.le_refl _) hb)
    have HD0 : Box (Below wx.heap.size wx wx.drew) := boxed ((Below.refl _ _).drew)
    clear hbx hc0
    generalize enc s = E at *
    go_wp2_with fail
    go_region_held3 (fun W' => W'.cell? ⟨w2.heap.size, 0, none⟩ = some (.slice (some ⟨b, off, none⟩) s.length cp))
      (first | with_reducible exact HX.out _ HD0.out | with_reducible exact HX.out _ HD3.out | with_reducible exact HX.out _ HD4.out | with_reducible exact HX.out _ HD5.out | with_reducible exact HX.out _ HD6.out | with_reducible exact HX.out _ HD8.out)
      (first
        | (go_at_call 12; refine (HLN.out _ (HW.out _ HD0.out)).mono ?_; rintro e w3 ⟨rfl, hb3⟩; have HD3 := boxed (below_step HD0.out (Nat.le_refl _) hb3); clear hb3)
        | (go_at_call 14; refine (HRU.out _ (HW.out _ HD3.out)).mono ?_; rintro e w4 ⟨so4, sc4, rfl, ho4, hb4⟩; have HO4 := boxed ho4; have HD4 := boxed (below_step HD3.out (Nat.le_refl _) hb4); clear hb4 ho4)
        | (go_at_call 15; refine (HRR.out _ (HW.out _ HD4.out)).mono ?_; rintro e w5 ⟨so5, sc5, rfl, ho5, hb5⟩; have HO5 := boxed (And.intro (owns_below HO4.out hb5) ho5); have HD5 := boxed (below_step HD4.out (Nat.le_refl _) hb5); clear hb5 ho5)
        | (go_at_call 13; refine (HSA.out _ _ _ _ _ HO5.out.1 HO5.out.2).mono ?_; rintro e w6 ⟨rfl, hb6⟩; have HD6 := boxed (below_step HD5.out (Nat.le_refl _) hb6); clear hb6)
        | (go_at_call 16; refine (HCT.out _ (HW.out _ HD6.out)).mono ?_; rintro e w7' ⟨rfl, hw7⟩; subst w7')
        | (go_at_call 15; refine (HRR.out _ (HW.out _ HD6.out)).mono ?_; rintro e w8 ⟨so8, sc8, rfl, ho8, hb8⟩; have HD8 := boxed (below_step HD6.out (Nat.le_refl _) hb8); clear hb8 ho8))
    go_wp2
    go_ret
    exact ⟨by simp, HB2.out.trans ((HW.out _ HD8.out).mono HB2.out.size)⟩
  · have hsm' : smb a0 a1 = false := by simpa using hsm
    rw [hsm'] at hs
    clear hsm hsm' hO2
    go_enter Try.func3, Try.ntmps3
    go_wp2_with fail
    refine (awake_any _).mono ?_
    rintro e w1 ⟨rfl, hb1⟩
    have HB1 := boxed hb1
    clear hb1
    go_wp2_with (go_at_call 10; refine (hs _).mono ?_; rintro e w1' ⟨rfl, hw'⟩; subst w1')
    go_ret
    exact ⟨rfl, HB1.out⟩

set_option maxRecDepth 100000 in
theorem lifted (os : Os) (started : os.Started) (H : Type) (enc : TypeId × Value → H) :
    ReturnsInHanded {} Try.checked os 3 .any (Rows.runsPlaysSpec.pre6 enc Try.prog Try.f3 Rows.runsPlaysRow.domain false) (Rows.runsPlaysSpec.post enc Try.prog Try.f3 false true false false) := by
  refine returnsInHanded_of_change_sized (C := Try.checked) own started (by kernel_rfl) Try.func3
    (ChangeSpec.witness6 (enc := enc) (C := Try.checked) false ⟨#[], #[.int .i64 0, .int .i64 0, .slice none 0 0], []⟩ 8 (by kernel_rfl) (by kernel_rfl) (by kernel_rfl) (by kernel_rfl)) ?_
  intro W base args ds gs before hval0 hW hcnd hsz0 _
  have hval : ∀ (j : Nat) t v, Try.f3.params[j]? = some t → args[j]? = some v → Value.okWide Try.prog W .any base t v := hval0
  have hsz : (DataW.weightsEach Try.prog (Try.f3.params.toList ++ Rows.runsPlaysSpec.plain.varTypes Try.prog) (ds ++ gs)).all (· ≤ reachBytes) = true := hsz0
  have hW' := hW
  obtain ⟨p, q, hA0, hV, rfl, hfz, hnd⟩ := hW
  have hA : DataW.TrodAll enc Try.prog W 0 (fun _ => true) true Try.f3.params.toList args.toList ds p := hA0
  rw [Try.params3] at hA hval hsz
  obtain ⟨v0, vs0, d0, ds0, p0, q0, hargs, rfl, rfl, h0, r0⟩ := trodAll_cons hA
  obtain ⟨v1, vs1, d1, ds1, p1, q1, rfl, rfl, rfl, h1, r1⟩ := trodAll_cons r0
  obtain ⟨v2, vs2, d2, ds2, p2, q2, rfl, rfl, rfl, h2, r2⟩ := trodAll_cons r1
  obtain ⟨rfl, rfl, rfl⟩ := trodAll_nil r2
  obtain rfl : args = #[v0, v1, v2] := by cases args; simp_all
  obtain ⟨rfl, rfl⟩ := trodVars_none hV
  obtain ⟨a0, rfl, rfl, rfl, w0⟩ := open_int Try.underlying3 (hval 0 3 v0 rfl rfl) h0
  obtain ⟨a1, rfl, rfl, rfl, w1⟩ := open_int Try.underlying3 (hval 1 3 v1 rfl rfl) h1
  obtain ⟨ao2, n2, cap2, rfl⟩ := okWide_slice Try.underlying22 (hval 2 22 v2 rfl rfl)
  have k2 := h2
  have lt2 : ∀ x ∈ p2, x.block < W.heap.size := by obtain ⟨m, hm⟩ := k2; exact DataW.trod_lt m _ _ _ hm
  obtain ⟨hn2, O2, hO2⟩ : n2 ≤ maxLen ∧ ∃ O, OpsAt (fun _ => True) W ao2 n2 O := by
    obtain ⟨fuel, hf⟩ := k2
    exact open_ops hf
  clear hA0 hval0
  refine (walk W a0 w0 a1 w1 ao2 n2 cap2 O2 hn2 hO2).mono fun e W' ⟨he, hg⟩ => ?_
  subst he
  exact ⟨_, rfl, _, _, _, [], _, [], hW', trodAll_mk1 (shut_bool Try.underlying4 _), (trodAll_cons_mk (shut_int Try.underlying3 w0) (trodAll_cons_mk (shut_int Try.underlying3 w1) (trodAll_cons_mk (Below.trod laidOut (by kernel_rfl) (of_decide_eq_true (by kernel_rfl)) k2 hg lt2) trodAll_mk0))), rfl, hg.frame _, fun h => by cases h⟩

theorem proved : Rows.RunsPlaysSaid :=
  OpenClaim.holds_of_wide 3 Try.f3 rfl rfl rfl rfl rfl rfl rfl ⟨rfl, rfl, rfl, rfl, rfl⟩ rfl rfl rfl rfl rfl (by kernel_rfl) Try.func3 (by kernel_rfl)
    (of_decide_eq_true (by kernel_rfl)) (by unfold Func.isWrapper; first | (rw [if_pos (by decide +kernel)]; kernel_rfl) | (rw [if_neg (by decide +kernel)]; exact ⟨rfl, rfl⟩))
    (fun os started H enc _ => lifted os started H enc)
#print axioms proved
end Go.Proofs.Ytdchpiihjjjpfaa.runsPlays
