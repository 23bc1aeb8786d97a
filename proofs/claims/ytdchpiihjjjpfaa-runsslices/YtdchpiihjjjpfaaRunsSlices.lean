/-
  For every number, script and pair of places the law RunsSlices answers true and leaves its arguments as they were: any part's runs are told as they are, or refused.
-/
import Derived.Test.YtdchpiihjjjpfaaRows
import Derived.WalkKit
import Derived.ProofKit
import Derived.OpenShut
import Derived.SizedLaws
import Derived.ShutString
import Derived.ChangeOld
import Derived.Below
import Derived.Test.YtdchpiihjjjpfaaLv
import Derived.Test.YtdchpiihjjjpfaaLz
import Derived.Test.YtdchpiihjjjpfaaKb
import Derived.Test.YtdchpiihjjjpfaaKc
import Derived.Test.YtdchpiihjjjpfaaKd
namespace Go.Proofs.Ytdchpiihjjjpfaa.runsSlices
open Go.ChangeShapes Go.WideShapes Go.ChangeAt Go.RowKit
open Go.ChangeMaps (open_string shut_string)
set_option linter.unusedVariables false
set_option linter.unusedSimpArgs false

theorem own : ownKnob Try.prog.godebug = none := by kernel_rfl
theorem laidOut : laidOutB Try.prog = true := by kernel_rfl

set_option maxRecDepth 100000 in
set_option maxHeartbeats 2000000 in
theorem walk (w : World) (a0 : Int) (w0 : (Lit.int .i64 a0).wf = true) (ao1 : Option Addr) (n1 cap1 : Nat) (O1 : Nat → Opr) (hn1 : n1 ≤ maxLen) (hO1 : OpsAt (fun _ => True) w ao1 n1 O1) (x2 y2 : Int) (hx2 : I64 x2 ∧ I64 y2) :
    Calls Try.prog 6 #[.int .i64 a0, .slice ao1 n1 cap1, .agg #[.int .i64 x2, .int .i64 y2]] w fun e w' => e = .returned (.bool true) ∧ Below w.heap.size w w' := by
  have hs := small_any a0 1
  by_cases hsm : smb a0 1 = true
  · obtain ⟨⟨q1, q2⟩, -⟩ := (smb_iff _ _).1 hsm
    rw [hsm] at hs
    obtain ⟨n, rfl⟩ : ∃ n : Nat, a0 = n := ⟨a0.toNat, by omega⟩
    have hp := fun w' (hb : Below w.heap.size w w') => played_any n 1 (by omega) ⟨by omega, by omega⟩ ao1 n1 cap1 O1 w' hn1 (hO1.keep (fun k i u _ hc => ⟨trivial, hold hb hc⟩))
    have HP := boxed hp
    clear hp hsm hO1
    go_enter Try.func6, Try.ntmps6
    go_wp2_with fail
    refine (awake_any _).mono ?_
    rintro e w1 ⟨rfl, hb1⟩
    rw [World.size_alloc] at hb1
    have HB1 := boxed hb1
    clear hb1
    go_wp2_with (go_at_call 10; refine (hs _).mono ?_; rintro e w1' ⟨rfl, hw'⟩; subst w1')
    refine (HP.out _ (below_box HB1.out)).mono ?_
    rintro e w2 ⟨lb, b, off, cp, aL, capL, k, s, bare, -, -, -, rfl, hlb, hL, hr, hb2⟩
    have HB2 := boxed (below_step HB1.out (by simp) hb2)
    obtain ⟨u0, u1⟩ := box_kept HB2.out
    have hsl := fun w' (hb : Below w2.heap.size w2 w') => slice_any (hL.below hb) x2 y2
    have hsp := fun w' (hb : Below w2.heap.size w2 w') => span_any (base := bare) (hr.below hb) x2 y2
    have HSL := boxed hsl
    have HSP := boxed hsp
    have HR := boxed hr
    clear hL hr hb2 HP hsl hsp
    obtain ⟨wx, hwx⟩ : ∃ wx, w2.alloc (.cells #[.slice (some ⟨b, off, none⟩) s.length cp, .int .i64 bare] 28) = wx := ⟨_, rfl⟩
    have hbx : Below w2.heap.size w2 wx := by rw [← hwx]; exact (Below.refl _ _).alloc (Nat.le_refl _) _
    have hc0 : wx.cell? ⟨w2.heap.size, 0, none⟩ = some (.slice (some ⟨b, off, none⟩) s.length cp) := by rw [← hwx, cell_new _ _ _ _ _ rfl]; rfl
    have hc1 : wx.cell? ⟨w2.heap.size, 1, none⟩ = some (.int .i64 bare) := by rw [← hwx, cell_new _ _ _ _ _ rfl]; rfl
    have HX : Box (∀ W', Below wx.heap.size wx W' → W'.cell? ⟨w2.heap.size, 0, none⟩ = some (.slice (some ⟨b, off, none⟩) s.length cp) ∧ W'.cell? ⟨w2.heap.size, 1, none⟩ = some (.int .i64 bare) ∧ W'.cell? ⟨w.heap.size, 0, none⟩ = some (.int .i64 x2) ∧ W'.cell? ⟨w.heap.size, 1, none⟩ = some (.int .i64 y2)) := boxed (fun W' hb => ⟨hold hb hc0, hold hb hc1, hold hb (hold hbx u0), hold hb (hold hbx u1)⟩)
    have HW : Box (∀ W', Below wx.heap.size wx W' → Below w2.heap.size w2 W') := boxed (fun W' hb => below_step hbx (Nat.le_refl _) hb)
    obtain ⟨g0, g1, g2, g3⟩ := HX.out _ (Below.refl _ _)
    clear hbx hc0 hc1 u0 u1
    go_wp2_with fail
    refine (HSL.out _ (HW.out _ (Below.refl _ _))).mono ?_
    rintro e w3 hs3
    rcases hs3 with ⟨ho, rfl, hb3⟩ | ⟨ho, v3, rfl, hv3, hb3⟩
    · have HD3 := boxed hb3
      obtain ⟨g0, g1, g2, g3⟩ := HX.out _ hb3
      have hsp := HSP.out _ (HW.out _ hb3)
      rw [ho] at hsp
      have eo : ofs true = 30 := rfl
      rw [eo] at hsp
      clear hb3
      go_wp2_with fail
      refine hsp.mono ?_
      rintro e w4 ⟨rfl, hb4⟩
      have HD4 := boxed (below_step HD3.out (Nat.le_refl _) hb4)
      clear hb4 hsp
      go_wp2
      go_ret
      exact ⟨rfl, below_box (below_step HB2.out (by simp) (HW.out _ HD4.out))⟩
    · have HD3 := boxed hb3
      obtain ⟨g0, g1, g2, g3⟩ := HX.out _ hb3
      have hsp := HSP.out _ (HW.out _ hb3)
      rw [ho] at hsp
      have eo : ofs false = 0 := rfl
      rw [eo] at hsp
      obtain ⟨so3, sc3, rfl⟩ := own_shape hv3
      have HV3 := boxed hv3
      obtain ⟨p1, p3, p2⟩ := (outb_iff _ _ _).1 ho
      obtain ⟨x, rfl⟩ : ∃ x : Nat, x2 = x := ⟨x2.toNat, by omega⟩
      obtain ⟨y, rfl⟩ : ∃ y : Nat, y2 = y := ⟨y2.toNat, by omega⟩
      have hsm := sl_mid b off s.length cp x y (by omega) (by omega) HR.out.cap
      have hrm := fun w' (hb : Below wx.heap.size wx w') => rruns_mid (· ≠ lb) w' b off cp s (HR.out.below (HW.out _ hb)) x y (by omega) (by omega)
      have hsa := fun B C w' v1 v2 => same_yes B C w' v1 v2 (sub s x y) (fun z hz => HR.out.ok z (sub_mem s x y z hz)) (by have := HR.out.len; rw [sub_len s x y (by omega)]; omega)
      have HRM := boxed hrm
      have HSA := boxed hsa
      clear hb3 hv3 ho hrm hsa
      go_wp2_with fail
      refine hsp.mono ?_
      rintro e w4 ⟨rfl, hb4⟩
      have HD4 := boxed (below_step HD3.out (Nat.le_refl _) hb4)
      have HV4 := boxed (owns_below HV3.out hb4)
      obtain ⟨g0, g1, g2, g3⟩ := HX.out _ HD4.out
      clear hb4 hsp
      go_wp2_with fail
      refine (HRM.out _ HD4.out).mono ?_
      rintro e w5 ⟨v5, rfl, ho5, hb5⟩
      have HO5 := boxed (And.intro (owns_below HV4.out hb5) ho5)
      have HD5 := boxed (below_step HD4.out (Nat.le_refl _) hb5)
      clear hb5 ho5
      go_wp2_with fail
      refine (HSA.out _ _ _ _ _ HO5.out.1 HO5.out.2).mono ?_
      rintro e w6 ⟨rfl, hb6⟩
      have HD6 := boxed (below_step HD5.out (Nat.le_refl _) hb6)
      clear hb6
      go_wp2
      go_ret
      exact ⟨rfl, below_box (below_step HB2.out (by simp) (HW.out _ HD6.out))⟩
  · have hsm' : smb a0 1 = false := by simpa using hsm
    rw [hsm'] at hs
    clear hsm hsm' hO1
    go_enter Try.func6, Try.ntmps6
    go_wp2_with fail
    refine (awake_any _).mono ?_
    rintro e w1 ⟨rfl, hb1⟩
    rw [World.size_alloc] at hb1
    have HB1 := boxed hb1
    clear hb1
    go_wp2_with (go_at_call 10; refine (hs _).mono ?_; rintro e w1' ⟨rfl, hw'⟩; subst w1')
    go_ret
    exact ⟨rfl, below_box HB1.out⟩

set_option maxRecDepth 100000 in
theorem lifted (os : Os) (started : os.Started) (H : Type) (enc : TypeId × Value → H) :
    ReturnsInHanded {} Try.checked os 6 .any (Rows.runsSlicesSpec.pre6 enc Try.prog Try.f6 Rows.runsSlicesRow.domain false) (Rows.runsSlicesSpec.post enc Try.prog Try.f6 false true false false) := by
  refine returnsInHanded_of_change_sized (C := Try.checked) own started (by kernel_rfl) Try.func6
    (ChangeSpec.witness6 (enc := enc) (C := Try.checked) false ⟨#[], #[.int .i64 0, .slice none 0 0, .agg #[.int .i64 0, .int .i64 0]], []⟩ 8 (by kernel_rfl) (by kernel_rfl) (by kernel_rfl) (by kernel_rfl)) ?_
  intro W base args ds gs before hval0 hW hcnd hsz0 _
  have hval : ∀ (j : Nat) t v, Try.f6.params[j]? = some t → args[j]? = some v → Value.okWide Try.prog W .any base t v := hval0
  have hsz : (DataW.weightsEach Try.prog (Try.f6.params.toList ++ Rows.runsSlicesSpec.plain.varTypes Try.prog) (ds ++ gs)).all (· ≤ reachBytes) = true := hsz0
  have hW' := hW
  obtain ⟨p, q, hA0, hV, rfl, hfz, hnd⟩ := hW
  have hA : DataW.TrodAll enc Try.prog W 0 (fun _ => true) true Try.f6.params.toList args.toList ds p := hA0
  rw [Try.params6] at hA hval hsz
  obtain ⟨v0, vs0, d0, ds0, p0, q0, hargs, rfl, rfl, h0, r0⟩ := trodAll_cons hA
  obtain ⟨v1, vs1, d1, ds1, p1, q1, rfl, rfl, rfl, h1, r1⟩ := trodAll_cons r0
  obtain ⟨v2, vs2, d2, ds2, p2, q2, rfl, rfl, rfl, h2, r2⟩ := trodAll_cons r1
  obtain ⟨rfl, rfl, rfl⟩ := trodAll_nil r2
  obtain rfl : args = #[v0, v1, v2] := by cases args; simp_all
  obtain ⟨rfl, rfl⟩ := trodVars_none hV
  obtain ⟨a0, rfl, rfl, rfl, w0⟩ := open_int Try.underlying3 (hval 0 3 v0 rfl rfl) h0
  obtain ⟨ao1, n1, cap1, rfl⟩ := okWide_slice Try.underlying22 (hval 1 22 v1 rfl rfl)
  have k1 := h1
  have lt1 : ∀ x ∈ p1, x.block < W.heap.size := by obtain ⟨m, hm⟩ := k1; exact DataW.trod_lt m _ _ _ hm
  obtain ⟨hn1, O1, hO1⟩ : n1 ≤ maxLen ∧ ∃ O, OpsAt (fun _ => True) W ao1 n1 O := by
    obtain ⟨fuel, hf⟩ := k1
    exact open_ops hf
  have k2 := h2
  have lt2 : ∀ x ∈ p2, x.block < W.heap.size := by obtain ⟨m, hm⟩ := k2; exact DataW.trod_lt m _ _ _ hm
  obtain ⟨x2, y2, rfl, hx2⟩ : ∃ x y : Int, v2 = .agg #[.int .i64 x, .int .i64 y] ∧ (-9223372036854775808 ≤ x ∧ x ≤ 9223372036854775807) ∧ -9223372036854775808 ≤ y ∧ y ≤ 9223372036854775807 := by
    obtain ⟨fuel, hf⟩ := k2
    exact pair_value Try.underlying49 (by kernel_rfl) hf
  clear hA0 hval0
  refine (walk W a0 w0 ao1 n1 cap1 O1 hn1 hO1 x2 y2 hx2).mono fun e W' ⟨he, hg⟩ => ?_
  subst he
  exact ⟨_, rfl, _, _, _, [], _, [], hW', trodAll_mk1 (shut_bool Try.underlying4 _), (trodAll_cons_mk (shut_int Try.underlying3 w0) (trodAll_cons_mk (Below.trod laidOut (by kernel_rfl) (of_decide_eq_true (by kernel_rfl)) k1 hg lt1) (trodAll_cons_mk (Below.trod laidOut (by kernel_rfl) (of_decide_eq_true (by kernel_rfl)) k2 hg lt2) trodAll_mk0))), rfl, hg.frame _, fun h => by cases h⟩

theorem proved : Rows.RunsSlicesSaid :=
  OpenClaim.holds_of_wide 6 Try.f6 rfl rfl rfl rfl rfl rfl rfl ⟨rfl, rfl, rfl, rfl, rfl⟩ rfl rfl rfl rfl rfl (by kernel_rfl) Try.func6 (by kernel_rfl)
    (of_decide_eq_true (by kernel_rfl)) (by unfold Func.isWrapper; first | (rw [if_pos (by decide +kernel)]; kernel_rfl) | (rw [if_neg (by decide +kernel)]; exact ⟨rfl, rfl⟩))
    (fun os started H enc _ => lifted os started H enc)
#print axioms proved
end Go.Proofs.Ytdchpiihjjjpfaa.runsSlices
