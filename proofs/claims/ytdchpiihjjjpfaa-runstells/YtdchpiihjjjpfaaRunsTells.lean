/-
  For every number, script and place the law RunsTells answers true and leaves its arguments as they were: each byte's style, the style near each place, and the greatest one are told.
-/
import Derived.Test.YtdchpiihjjjpfaaRows
import Derived.WalkKit
import Derived.ProofKit
import Derived.OpenShut
import Derived.SizedLaws
import Derived.ShutString
import Derived.ChangeOld
import Derived.Below
import Derived.Test.YtdchpiihjjjpfaaLv
import Derived.Test.YtdchpiihjjjpfaaLz
import Derived.Test.YtdchpiihjjjpfaaKb
import Derived.Test.YtdchpiihjjjpfaaKc
import Derived.Test.YtdchpiihjjjpfaaKd
import Derived.Test.YtdchpiihjjjpfaaKe
import Derived.Test.YtdchpiihjjjpfaaKf
namespace Go.Proofs.Ytdchpiihjjjpfaa.runsTells
open Go.ChangeShapes Go.WideShapes Go.ChangeAt Go.RowKit
open Go.ChangeMaps (open_string shut_string)
set_option linter.unusedVariables false
set_option linter.unusedSimpArgs false

theorem own : ownKnob Try.prog.godebug = none := by kernel_rfl
theorem laidOut : laidOutB Try.prog = true := by kernel_rfl

set_option maxRecDepth 100000 in
set_option maxHeartbeats 2000000 in
theorem walk (w : World) (a0 : Int) (w0 : (Lit.int .i64 a0).wf = true) (ao1 : Option Addr) (n1 cap1 : Nat) (O1 : Nat → Opr) (hn1 : n1 ≤ maxLen) (hO1 : OpsAt (fun _ => True) w ao1 n1 O1) (a2 : Int) (w2 : (Lit.int .i64 a2).wf = true) :
    Calls Try.prog 5 #[.int .i64 a0, .slice ao1 n1 cap1, .int .i64 a2] w fun e w' => e = .returned (.bool true) ∧ Below w.heap.size w w' := by
  have hw2 := w2
  clear w2
  have hs := small_any a0 1
  by_cases hsm : smb a0 1 = true
  · obtain ⟨⟨q1, q2⟩, q3⟩ := (smb_iff _ _).1 hsm
    rw [hsm] at hs
    obtain ⟨n, rfl⟩ : ∃ n : Nat, a0 = n := ⟨a0.toNat, by omega⟩
    have hp := fun w' (hb : Below w.heap.size w w') => played_any n 1 (by omega) ⟨by omega, by omega⟩ ao1 n1 cap1 O1 w' hn1 (hO1.keep (fun k i u _ hc => ⟨trivial, hold hb hc⟩))
    have HP := boxed hp
    clear hp hsm hO1
    go_enter Try.func5, Try.ntmps5
    go_wp2_with fail
    refine (awake_any _).mono ?_
    rintro e w1 ⟨rfl, hb1⟩
    have HB1 := boxed hb1
    clear hb1
    go_wp2_with (go_at_call 10; refine (hs _).mono ?_; rintro e w1' ⟨rfl, hw'⟩; subst w1')
    refine (HP.out _ HB1.out).mono ?_
    rintro e w2 ⟨lb, b, off, cp, aL, capL, k, s, bare, -, -, -, rfl, hlb, hL, hr, hb2⟩
    have HB2 := boxed (below_step HB1.out (Nat.le_refl _) hb2)
    have HL2 := boxed hL
    have HR2 := boxed hr
    obtain ⟨wx, hwx⟩ : ∃ wx, w2.alloc (.cells #[.slice (some ⟨b, off, none⟩) s.length cp, .int .i64 bare] 28) = wx := ⟨_, rfl⟩
    have hbx : Below w2.heap.size w2 wx := by rw [← hwx]; exact (Below.refl _ _).alloc (Nat.le_refl _) _
    have hc0 : wx.cell? ⟨w2.heap.size, 0, none⟩ = some (.slice (some ⟨b, off, none⟩) s.length cp) := by rw [← hwx, cell_new _ _ _ _ _ rfl]; rfl
    have hc1 : wx.cell? ⟨w2.heap.size, 1, none⟩ = some (.int .i64 bare) := by rw [← hwx, cell_new _ _ _ _ _ rfl]; rfl
    have HX : Box (∀ W', Below wx.heap.size wx W' → W'.cell? ⟨w2.heap.size, 0, none⟩ = some (.slice (some ⟨b, off, none⟩) s.length cp) ∧ W'.cell? ⟨w2.heap.size, 1, none⟩ = some (.int .i64 bare)) := boxed (fun W' hb => ⟨hold hb hc0, hold hb hc1⟩)
    have hLx := hL.below hbx
    have hrx := hr.below hbx
    have HAT := boxed (at_any hLx a2)
    have HNR := boxed (fun w' (hb : Below wx.heap.size wx w') => near_any (hLx.below hb) a2 (wf_i64 hw2))
    have HRN := boxed (fun w' (hb : Below wx.heap.size wx w') => rnear_any (base := bare) (hrx.below hb) a2 (wf_i64 hw2))
    have HMO := boxed (fun w' (hb : Below wx.heap.size wx w') => most_any (hLx.below hb))
    have HC := boxed (fun w' (hb : Below wx.heap.size wx w') => (hrx.below hb).cells)
    have HOK := boxed hr.ok
    have hlen := hr.len
    have HBx := boxed (below_step HB2.out (Nat.le_refl _) hbx)
    clear hL hr hb2 HP HL2 HR2 hbx hc0 hc1 hLx hrx
    have h3 : (0 ≤ a2 ∧ a2 < s.length) ∨ a2 < 0 ∨ ((s.length : Int) ≤ a2 ∧ 0 ≤ a2) := by omega
    rcases h3 with h3 | h3 | h3
    · obtain ⟨p, rfl⟩ : ∃ p : Nat, a2 = p := ⟨a2.toNat, by omega⟩
      rw [if_pos h3, decide_eq_true h3] at HAT
      have ep : ((p : Int)).toNat = p := by simp
      rw [ep] at HAT
      have hpl : p < s.length := by omega
      have z1 : decide ((0 : Int) ≤ (p : Int)) = true := decide_eq_true (by omega)
      have z2 : decide ((p : Int) < (s.length : Int)) = true := decide_eq_true (by omega)
      have HYp : Box (∃ y, s.getD p 0 = y) := boxed ⟨_, rfl⟩
      clear h3 ep
      go_wp2_with fail
      refine HAT.out.mono ?_
      rintro e w3 ⟨rfl, hb3⟩
      have HD3 := boxed hb3
      clear hb3 HAT
      obtain ⟨g0, g1⟩ := HX.out _ HD3.out
      go_wp2_with fail
      refine (HNR.out _ HD3.out).mono ?_
      rintro e w4 ⟨rfl, hb4⟩
      have HD4 := boxed (below_step HD3.out (Nat.le_refl _) hb4)
      clear hb4 HNR
      obtain ⟨g0, g1⟩ := HX.out _ HD4.out
      go_wp2_with fail
      refine (HRN.out _ HD4.out).mono ?_
      rintro e w5 ⟨rfl, hb5⟩
      have HD5 := boxed (below_step HD4.out (Nat.le_refl _) hb5)
      clear hb5 HRN
      obtain ⟨g0, g1⟩ := HX.out _ HD5.out
      have hcp := HC.out _ HD5.out p hpl
      generalize nr s bare (p : Int) = K0 at *
      generalize ofs (outb s.length (p : Int) (p : Int)) = E0 at *
      go_wp2_with fail
      go_loopw [16, 17] (fun vm vi wr => ∃ (k : Nat) (m : Int), k ≤ s.length ∧ (-1 ≤ m ∧ m < 32) ∧ vm = .int .i64 m ∧ vi = .int .i64 (k : Nat) ∧ Box ((∀ j, j < k → s.getD j 0 ≤ m) ∧ (m = -1 ∨ ∃ j, j < k ∧ s.getD j 0 = m)) ∧ Box (Below wx.heap.size wx wr)) (fun _ vi _ => s.length - (intOf vi).toNat)
      case atStart => exact ⟨0, -1, Nat.zero_le _, ⟨by omega, by omega⟩, rfl, rfl, boxed ⟨fun j hj => by omega, .inl rfl⟩, HD5⟩
      case round =>
        obtain ⟨k, m, hk, hm, rfl, rfl, HF, HB⟩ := hrel
        obtain ⟨g0, g1⟩ := HX.out _ HB.out
        by_cases hkn : k < s.length
        · have hc := HC.out _ HB.out k hkn
          have hy := HOK.out (s.getD k 0) (getD_mem hkn)
          have HG := boxed (mx_step HF.out)
          generalize s.getD k 0 = y at *
          go_wp2_with fail
          go_roundw
          case rel => exact ⟨k + 1, max m y, by omega, ⟨by omega, by omega⟩, by first | rfl | (simp; done) | (congr 1; omega), by go_num, HG, HB⟩
          case measure => simp [intOf]; omega
        · obtain rfl : k = s.length := by omega
          have HG := boxed (isMx_all HF.out.1 HF.out.2)
          go_wp2_with fail
          refine (HMO.out _ HB.out).mono ?_
          rintro e w6 ⟨m', rfl, hm', hb6⟩
          obtain rfl := isMx_one HOK.out hm' HG.out
          have HD6 := boxed (below_step HB.out (Nat.le_refl _) hb6)
          clear hb6 hm'
          go_wp2
          go_ret
          exact ⟨by simp, below_step HBx.out (Nat.le_refl _) HD6.out⟩
    · rw [if_neg (by omega), decide_eq_false (by omega : ¬ (0 ≤ a2 ∧ a2 < s.length))] at HAT
      have z1 : decide ((0 : Int) ≤ a2) = false := decide_eq_false (by omega)
      clear h3
      go_wp2_with fail
      refine HAT.out.mono ?_
      rintro e w3 ⟨rfl, hb3⟩
      have HD3 := boxed hb3
      clear hb3 HAT
      obtain ⟨g0, g1⟩ := HX.out _ HD3.out
      go_wp2_with fail
      refine (HNR.out _ HD3.out).mono ?_
      rintro e w4 ⟨rfl, hb4⟩
      have HD4 := boxed (below_step HD3.out (Nat.le_refl _) hb4)
      clear hb4 HNR
      obtain ⟨g0, g1⟩ := HX.out _ HD4.out
      go_wp2_with fail
      refine (HRN.out _ HD4.out).mono ?_
      rintro e w5 ⟨rfl, hb5⟩
      have HD5 := boxed (below_step HD4.out (Nat.le_refl _) hb5)
      clear hb5 HRN
      obtain ⟨g0, g1⟩ := HX.out _ HD5.out
      generalize nr s bare a2 = K0 at *
      generalize ofs (outb s.length a2 a2) = E0 at *
      go_wp2_with fail
      go_loopw [16, 17] (fun vm vi wr => ∃ (k : Nat) (m : Int), k ≤ s.length ∧ (-1 ≤ m ∧ m < 32) ∧ vm = .int .i64 m ∧ vi = .int .i64 (k : Nat) ∧ Box ((∀ j, j < k → s.getD j 0 ≤ m) ∧ (m = -1 ∨ ∃ j, j < k ∧ s.getD j 0 = m)) ∧ Box (Below wx.heap.size wx wr)) (fun _ vi _ => s.length - (intOf vi).toNat)
      case atStart => exact ⟨0, -1, Nat.zero_le _, ⟨by omega, by omega⟩, rfl, rfl, boxed ⟨fun j hj => by omega, .inl rfl⟩, HD5⟩
      case round =>
        obtain ⟨k, m, hk, hm, rfl, rfl, HF, HB⟩ := hrel
        obtain ⟨g0, g1⟩ := HX.out _ HB.out
        by_cases hkn : k < s.length
        · have hc := HC.out _ HB.out k hkn
          have hy := HOK.out (s.getD k 0) (getD_mem hkn)
          have HG := boxed (mx_step HF.out)
          generalize s.getD k 0 = y at *
          go_wp2_with fail
          go_roundw
          case rel => exact ⟨k + 1, max m y, by omega, ⟨by omega, by omega⟩, by first | rfl | (simp; done) | (congr 1; omega), by go_num, HG, HB⟩
          case measure => simp [intOf]; omega
        · obtain rfl : k = s.length := by omega
          have HG := boxed (isMx_all HF.out.1 HF.out.2)
          go_wp2_with fail
          refine (HMO.out _ HB.out).mono ?_
          rintro e w6 ⟨m', rfl, hm', hb6⟩
          obtain rfl := isMx_one HOK.out hm' HG.out
          have HD6 := boxed (below_step HB.out (Nat.le_refl _) hb6)
          clear hb6 hm'
          go_wp2
          go_ret
          exact ⟨by simp, below_step HBx.out (Nat.le_refl _) HD6.out⟩
    · rw [if_neg (by omega), decide_eq_false (by omega : ¬ (0 ≤ a2 ∧ a2 < s.length))] at HAT
      have z1 : decide ((0 : Int) ≤ a2) = true := decide_eq_true (by omega)
      have z2 : decide (a2 < (s.length : Int)) = false := decide_eq_false (by omega)
      clear h3
      go_wp2_with fail
      refine HAT.out.mono ?_
      rintro e w3 ⟨rfl, hb3⟩
      have HD3 := boxed hb3
      clear hb3 HAT
      obtain ⟨g0, g1⟩ := HX.out _ HD3.out
      go_wp2_with fail
      refine (HNR.out _ HD3.out).mono ?_
      rintro e w4 ⟨rfl, hb4⟩
      have HD4 := boxed (below_step HD3.out (Nat.le_refl _) hb4)
      clear hb4 HNR
      obtain ⟨g0, g1⟩ := HX.out _ HD4.out
      go_wp2_with fail
      refine (HRN.out _ HD4.out).mono ?_
      rintro e w5 ⟨rfl, hb5⟩
      have HD5 := boxed (below_step HD4.out (Nat.le_refl _) hb5)
      clear hb5 HRN
      obtain ⟨g0, g1⟩ := HX.out _ HD5.out
      generalize nr s bare a2 = K0 at *
      generalize ofs (outb s.length a2 a2) = E0 at *
      go_wp2_with fail
      go_loopw [16, 17] (fun vm vi wr => ∃ (k : Nat) (m : Int), k ≤ s.length ∧ (-1 ≤ m ∧ m < 32) ∧ vm = .int .i64 m ∧ vi = .int .i64 (k : Nat) ∧ Box ((∀ j, j < k → s.getD j 0 ≤ m) ∧ (m = -1 ∨ ∃ j, j < k ∧ s.getD j 0 = m)) ∧ Box (Below wx.heap.size wx wr)) (fun _ vi _ => s.length - (intOf vi).toNat)
      case atStart => exact ⟨0, -1, Nat.zero_le _, ⟨by omega, by omega⟩, rfl, rfl, boxed ⟨fun j hj => by omega, .inl rfl⟩, HD5⟩
      case round =>
        obtain ⟨k, m, hk, hm, rfl, rfl, HF, HB⟩ := hrel
        obtain ⟨g0, g1⟩ := HX.out _ HB.out
        by_cases hkn : k < s.length
        · have hc := HC.out _ HB.out k hkn
          have hy := HOK.out (s.getD k 0) (getD_mem hkn)
          have HG := boxed (mx_step HF.out)
          generalize s.getD k 0 = y at *
          go_wp2_with fail
          go_roundw
          case rel => exact ⟨k + 1, max m y, by omega, ⟨by omega, by omega⟩, by first | rfl | (simp; done) | (congr 1; omega), by go_num, HG, HB⟩
          case measure => simp [intOf]; omega
        · obtain rfl : k = s.length := by omega
          have HG := boxed (isMx_all HF.out.1 HF.out.2)
          go_wp2_with fail
          refine (HMO.out _ HB.out).mono ?_
          rintro e w6 ⟨m', rfl, hm', hb6⟩
          obtain rfl := isMx_one HOK.out hm' HG.out
          have HD6 := boxed (below_step HB.out (Nat.le_refl _) hb6)
          clear hb6 hm'
          go_wp2
          go_ret
          exact ⟨by simp, below_step HBx.out (Nat.le_refl _) HD6.out⟩
  · have hsm' : smb a0 1 = false := by simpa using hsm
    rw [hsm'] at hs
    clear hsm hsm' hO1
    go_enter Try.func5, Try.ntmps5
    go_wp2_with fail
    refine (awake_any _).mono ?_
    rintro e w1 ⟨rfl, hb1⟩
    have HB1 := boxed hb1
    clear hb1
    go_wp2_with (go_at_call 10; refine (hs _).mono ?_; rintro e w1' ⟨rfl, hw'⟩; subst w1')
    go_ret
    exact ⟨rfl, HB1.out⟩

set_option maxRecDepth 100000 in
theorem lifted (os : Os) (started : os.Started) (H : Type) (enc : TypeId × Value → H) :
    ReturnsInHanded {} Try.checked os 5 .any (Rows.runsTellsSpec.pre6 enc Try.prog Try.f5 Rows.runsTellsRow.domain false) (Rows.runsTellsSpec.post enc Try.prog Try.f5 false true false false) := by
  refine returnsInHanded_of_change_sized (C := Try.checked) own started (by kernel_rfl) Try.func5
    (ChangeSpec.witness6 (enc := enc) (C := Try.checked) false ⟨#[], #[.int .i64 0, .slice none 0 0, .int .i64 0], []⟩ 8 (by kernel_rfl) (by kernel_rfl) (by kernel_rfl) (by kernel_rfl)) ?_
  intro W base args ds gs before hval0 hW hcnd hsz0 _
  have hval : ∀ (j : Nat) t v, Try.f5.params[j]? = some t → args[j]? = some v → Value.okWide Try.prog W .any base t v := hval0
  have hsz : (DataW.weightsEach Try.prog (Try.f5.params.toList ++ Rows.runsTellsSpec.plain.varTypes Try.prog) (ds ++ gs)).all (· ≤ reachBytes) = true := hsz0
  have hW' := hW
  obtain ⟨p, q, hA0, hV, rfl, hfz, hnd⟩ := hW
  have hA : DataW.TrodAll enc Try.prog W 0 (fun _ => true) true Try.f5.params.toList args.toList ds p := hA0
  rw [Try.params5] at hA hval hsz
  obtain ⟨v0, vs0, d0, ds0, p0, q0, hargs, rfl, rfl, h0, r0⟩ := trodAll_cons hA
  obtain ⟨v1, vs1, d1, ds1, p1, q1, rfl, rfl, rfl, h1, r1⟩ := trodAll_cons r0
  obtain ⟨v2, vs2, d2, ds2, p2, q2, rfl, rfl, rfl, h2, r2⟩ := trodAll_cons r1
  obtain ⟨rfl, rfl, rfl⟩ := trodAll_nil r2
  obtain rfl : args = #[v0, v1, v2] := by cases args; simp_all
  obtain ⟨rfl, rfl⟩ := trodVars_none hV
  obtain ⟨a0, rfl, rfl, rfl, w0⟩ := open_int Try.underlying3 (hval 0 3 v0 rfl rfl) h0
  obtain ⟨ao1, n1, cap1, rfl⟩ := okWide_slice Try.underlying22 (hval 1 22 v1 rfl rfl)
  have k1 := h1
  have lt1 : ∀ x ∈ p1, x.block < W.heap.size := by obtain ⟨m, hm⟩ := k1; exact DataW.trod_lt m _ _ _ hm
  obtain ⟨hn1, O1, hO1⟩ : n1 ≤ maxLen ∧ ∃ O, OpsAt (fun _ => True) W ao1 n1 O := by
    obtain ⟨fuel, hf⟩ := k1
    exact open_ops hf
  obtain ⟨a2, rfl, rfl, rfl, w2⟩ := open_int Try.underlying3 (hval 2 3 v2 rfl rfl) h2
  clear hA0 hval0
  refine (walk W a0 w0 ao1 n1 cap1 O1 hn1 hO1 a2 w2).mono fun e W' ⟨he, hg⟩ => ?_
  subst he
  exact ⟨_, rfl, _, _, _, [], _, [], hW', trodAll_mk1 (shut_bool Try.underlying4 _), (trodAll_cons_mk (shut_int Try.underlying3 w0) (trodAll_cons_mk (Below.trod laidOut (by kernel_rfl) (of_decide_eq_true (by kernel_rfl)) k1 hg lt1) (trodAll_cons_mk (shut_int Try.underlying3 w2) trodAll_mk0))), rfl, hg.frame _, fun h => by cases h⟩

theorem proved : Rows.RunsTellsSaid :=
  OpenClaim.holds_of_wide 5 Try.f5 rfl rfl rfl rfl rfl rfl rfl ⟨rfl, rfl, rfl, rfl, rfl⟩ rfl rfl rfl rfl rfl (by kernel_rfl) Try.func5 (by kernel_rfl)
    (of_decide_eq_true (by kernel_rfl)) (by unfold Func.isWrapper; first | (rw [if_pos (by decide +kernel)]; kernel_rfl) | (rw [if_neg (by decide +kernel)]; exact ⟨rfl, rfl⟩))
    (fun os started H enc _ => lifted os started H enc)
#print axioms proved
end Go.Proofs.Ytdchpiihjjjpfaa.runsTells
