/-
  For every number, script and place the law RunsSplits answers true and leaves its arguments as they were: two parts' runs, one behind the other, are the whole's.
-/
import Derived.Test.YtdchpiihjjjpfabRows
import Derived.WalkKit
import Derived.ProofKit
import Derived.OpenShut
import Derived.SizedLaws
import Derived.ShutString
import Derived.ChangeOld
import Derived.Below
import Derived.Test.YtdchpiihjjjpfabLz
import Derived.Test.YtdchpiihjjjpfabKb
import Derived.Test.YtdchpiihjjjpfabKc
import Derived.Test.YtdchpiihjjjpfabKg
import Derived.Test.YtdchpiihjjjpfabZa
import Derived.Test.YtdchpiihjjjpfabZb
import Derived.Test.YtdchpiihjjjpfabZc
namespace Go.Proofs.Ytdchpiihjjjpfab.runsSplits
open Go.ChangeShapes Go.WideShapes Go.ChangeAt Go.RowKit
open Go.ChangeMaps (open_string shut_string)
set_option linter.unusedVariables false
set_option linter.unusedSimpArgs false

theorem own : ownKnob Try.prog.godebug = none := by kernel_rfl
theorem laidOut : laidOutB Try.prog = true := by kernel_rfl

set_option maxRecDepth 100000 in
set_option maxHeartbeats 2000000 in
theorem walk (w : World) (a0 : Int) (w0 : (Lit.int .i64 a0).wf = true) (ao1 : Option Addr) (n1 cap1 : Nat) (O1 : Nat → Opr) (hn1 : n1 ≤ maxLen) (hO1 : OpsAt (fun _ => True) w ao1 n1 O1) (a2 : Int) (w2 : (Lit.int .i64 a2).wf = true) :
    Calls Try.prog 4 #[.int .i64 a0, .slice ao1 n1 cap1, .int .i64 a2] w fun e w' => e = .returned (.bool true) ∧ Below w.heap.size w w' := by
  have hw2 := w2
  clear w2
  have hs := small_any a0 1
  by_cases hsm : smb a0 1 = true
  · obtain ⟨⟨q1, q2⟩, -⟩ := (smb_iff _ _).1 hsm
    rw [hsm] at hs
    obtain ⟨n, rfl⟩ : ∃ n : Nat, a0 = n := ⟨a0.toNat, by omega⟩
    have hp := fun w' (hb : Below w.heap.size w w') => played_any n 1 (by omega) ⟨by omega, by omega⟩ ao1 n1 cap1 O1 w' hn1 (hO1.keep (fun k i u _ hc => ⟨trivial, hold hb hc⟩))
    have HP := boxed hp
    clear hp hsm hO1
    go_enter Try.func4, Try.ntmps4
    go_wp2_with fail
    refine (awake_any _).mono ?_
    rintro e w1 ⟨rfl, hb1⟩
    have HB1 := boxed hb1
    clear hb1
    go_wp2_with (go_at_call 9; refine (hs _).mono ?_; rintro e w1' ⟨rfl, hw'⟩; subst w1')
    refine (HP.out _ HB1.out).mono ?_
    rintro e w2 ⟨lb, b, off, cp, aL, capL, k, s, bare, -, -, -, rfl, hlb, hL, hr, hb2⟩
    have HB2 := boxed (below_step HB1.out (Nat.le_refl _) hb2)
    have hlen := hL.len
    have HSK := boxed hL.ok
    obtain ⟨wx, hwx⟩ : ∃ wx, w2.alloc (.cells #[.slice (some ⟨b, off, none⟩) s.length cp, .int .i64 bare] 33) = wx := ⟨_, rfl⟩
    have hbx : Below w2.heap.size w2 wx := by rw [← hwx]; exact (Below.refl _ _).alloc (Nat.le_refl _) _
    have hLx := hL.below hbx
    have HBx := boxed (below_step HB2.out (Nat.le_refl _) hbx)
    have HLN := boxed (fun w' (hb : Below wx.heap.size wx w') => len_any (hLx.below hb))
    have HS0 := boxed (slice_any hLx 0 a2)
    have HS1 := boxed (fun w' (hb : Below wx.heap.size wx w') => slice_any (hLx.below hb) a2 (s.length : Nat))
    have HRU := boxed (fun w' (hb : Below wx.heap.size wx w') => runs_sh (hLx.below hb))
    clear hL hr hb2 HP hbx hLx
    go_wp2_with fail
    refine HS0.out.mono ?_
    rintro e w3 hs3
    rcases hs3 with ⟨ho, rfl, hb3⟩ | ⟨ho, v3, rfl, hv3, hb3⟩
    · have HD3 := boxed hb3
      have ho2 : outb s.length a2 (s.length : Nat) = true := by
        unfold outb at ho ⊢
        simp at ho ⊢
        omega
      have hor : a2 < 0 ∨ ((s.length : Int) < a2 ∧ 0 ≤ a2) := by
        unfold outb at ho
        simp at ho
        omega
      clear hb3 ho HS0
      go_wp2_with fail
      refine (HLN.out _ HD3.out).mono ?_
      rintro e w4 ⟨rfl, hb4⟩
      have HD4 := boxed (below_step HD3.out (Nat.le_refl _) hb4)
      clear hb4
      go_wp2_with fail
      refine (HS1.out _ HD4.out).mono ?_
      rintro e w5 hs5
      rcases hs5 with ⟨-, rfl, hb5⟩ | ⟨ho5, -⟩
      · have HD5 := boxed (below_step HD4.out (Nat.le_refl _) hb5)
        clear hb5 ho2
        rcases hor with hor | ⟨hor, hor2⟩
        · have t1 : decide (a2 < 0) = true := decide_eq_true hor
          go_wp2
          go_ret
          exact ⟨by simp, below_step HBx.out (Nat.le_refl _) HD5.out⟩
        · have t1 : decide (a2 < 0) = false := decide_eq_false (by omega)
          have t2 : decide ((s.length : Int) < a2) = true := decide_eq_true hor
          go_wp2_with fail
          refine (HLN.out _ HD5.out).mono ?_
          rintro e w6 ⟨rfl, hb6⟩
          have HD6 := boxed (below_step HD5.out (Nat.le_refl _) hb6)
          clear hb6
          go_wp2
          go_ret
          exact ⟨by simp, below_step HBx.out (Nat.le_refl _) HD6.out⟩
      · rw [ho2] at ho5; cases ho5
    · obtain ⟨p1, p3, p2⟩ := (outb_iff _ _ _).1 ho
      obtain ⟨x, rfl⟩ : ∃ x : Nat, a2 = x := ⟨a2.toNat, by omega⟩
      have ho2 : outb s.length (x : Nat) (s.length : Nat) = false := (outb_iff _ _ _).2 ⟨by omega, by omega, by omega⟩
      have HD3 := boxed hb3
      have hv3' : w3.ownsRow wx.heap.size 25 2 v3 (enc (sub s 0 x)).length (rcs (enc (sub s 0 x))) := by simpa using hv3
      obtain ⟨so3, sc3, rfl⟩ := own_shape hv3'
      have HV3 := boxed hv3'
      clear hb3 ho HS0 hv3 hv3'
      go_wp2_with fail
      refine (HLN.out _ HD3.out).mono ?_
      rintro e w4 ⟨rfl, hb4⟩
      have HD4 := boxed (below_step HD3.out (Nat.le_refl _) hb4)
      have HV4 := boxed (owns_below HV3.out hb4)
      clear hb4
      go_wp2_with fail
      refine (HS1.out _ HD4.out).mono ?_
      rintro e w5 hs5
      rcases hs5 with ⟨ho5, -⟩ | ⟨-, v5, rfl, hv5, hb5⟩
      · rw [ho2] at ho5; cases ho5
      · have HD5 := boxed (below_step HD4.out (Nat.le_refl _) hb5)
        have hv5' : w5.ownsRow w4.heap.size 25 2 v5 (enc (sub s x s.length)).length (rcs (enc (sub s x s.length))) := by simpa using hv5
        obtain ⟨so5, sc5, rfl⟩ := own_shape hv5'
        have HV5 := boxed (And.intro (owns_below HV4.out hb5) hv5')
        clear hb5 hv5 hv5' ho2
        obtain ⟨i0, hi, hz0, hz1, hz2⟩ := info_parts info_run
        have hmk := World.ownsRow_made (base := w5.heap.size) (e := 25) (size := 2) w5 #[] 0 (Nat.le_refl _) (by unfold maxLen; omega) (by simp)
        have hb0 : Below w5.heap.size w5 (w5.alloc (.cells #[] 25)) := (Below.refl _ _).alloc (Nat.le_refl _) _
        obtain ⟨W0, hW0⟩ : ∃ W0, w5.alloc (.cells #[] 25) = W0 := ⟨_, rfl⟩
        rw [hW0] at hmk hb0
        have HV6 := boxed (And.intro (owns_below HV5.out.1 hb0) (owns_below HV5.out.2 hb0))
        have HB0 := boxed hb0
        have hz0' := hb0.size
        have el1 := enc_len (sub s 0 x)
        have el2 := enc_len (sub s x s.length)
        rw [sub_len s 0 x (by omega)] at el1
        rw [sub_len s x s.length (by omega)] at el2
        have ro1 := rcs_one (enc (sub s 0 x))
        have ro2 := rcs_one (enc (sub s x s.length))
        have HFL : Box (flat (enc (sub s 0 x) ++ enc (sub s x s.length)) = flat (enc s)) := boxed (by
          rw [flat_app, flat_enc, flat_enc, flat_enc, sub_zero, sub_all, List.take_append_drop])
        have HK1 : Box (∀ p ∈ enc (sub s 0 x) ++ enc (sub s x s.length), p.1 ≤ 9223372036854775807 ∧ I64 p.2) := boxed (fun p hp => by
          rcases List.mem_append.1 hp with h | h
          · exact enc_ok (sok_sub HSK.out 0 x) (by rw [sub_len s 0 x (by omega)]; omega) p h
          · exact enc_ok (sok_sub HSK.out x s.length) (by rw [sub_len s x s.length (by omega)]; omega) p h)
        have HK2 := boxed (enc_ok HSK.out (by omega : s.length ≤ 8589934592))
        have HRC : Box (rcs (enc (sub s 0 x)) ++ rcs (enc (sub s x s.length)) = rcs (enc (sub s 0 x) ++ enc (sub s x s.length)) ∧ 0 + (enc (sub s 0 x)).length + (enc (sub s x s.length)).length = (enc (sub s 0 x) ++ enc (sub s x s.length)).length) := boxed ⟨(rcs_app _ _).symm, by simp⟩
        clear hb0
        generalize enc (sub s 0 x) = R1 at *
        generalize enc (sub s x s.length) = R2 at *
        generalize hE : enc s = R3 at *
        go_wp2_with (at_builtin; refine wpList_append_rows rfl _ _ 22 rfl w5.heap.size 25 i0 _ 2 16 Try.underlying22 hi hz0 hz1 hz2 rfl (by decide) _ _ _ rfl hmk _ _ R1.length (rcs R1) rfl HV6.out.1 ro1 (by unfold maxLen; omega) (by omega) hz0' ?_)
        intro v6 w6 hown6 hg6
        have hbW : Below w5.heap.size w5 w6 := HB0.out.grown hg6 hz0' (fun r e => owns_ge hmk r e)
        have HV7 := boxed (owns_below HV5.out.2 hbW)
        have hz6 := hbW.size
        obtain ⟨so6, sc6, hv6⟩ := own_shape hown6
        have HD6 := boxed (below_step HD5.out (Nat.le_refl _) hbW)
        have HBW := boxed hbW
        clear hbW hg6
        subst hv6
        go_wp2_with (at_builtin; refine wpList_append_rows rfl _ _ 22 rfl w5.heap.size 25 i0 _ 2 16 Try.underlying22 hi hz0 hz1 hz2 rfl (by decide) _ _ _ rfl hown6 _ _ R2.length (rcs R2) rfl HV7.out ro2 (by unfold maxLen; omega) (by omega) hz6 ?_)
        intro v7 w7 hown7 hg7
        have hbW7 : Below w5.heap.size w5 w7 := HBW.out.grown hg7 hz6 (fun r e => owns_ge hown6 r e)
        have HD7 := boxed (below_step HD5.out (Nat.le_refl _) hbW7)
        obtain ⟨so7, sc7, hv7⟩ := own_shape hown7
        have HO7 : Box (w7.ownsRow w5.heap.size 25 2 v7 (R1 ++ R2).length (rcs (R1 ++ R2))) := boxed (by
          rw [← HRC.out.1, List.length_append]
          exact hown7)
        clear hbW7 hg7 hown6 hown7 hmk
        subst hv7
        go_wp2_with fail
        refine (HRU.out _ HD7.out).mono ?_
        rintro e w8 ⟨so8, sc8, rfl, ho8, hb8⟩
        have HO8 := boxed (And.intro (owns_below HO7.out hb8) ho8)
        have HD8 := boxed (below_step HD7.out (Nat.le_refl _) hb8)
        clear hb8 ho8
        have HSM := boxed (psame_rows _ _ _ _ _ _ _ HO8.out.1 HO8.out.2 HK1.out HK2.out)
        go_wp2_with fail
        refine HSM.out.mono ?_
        rintro e w9 ⟨r, rfl, hr, hb9⟩
        obtain rfl : r = true := hr.2 HFL.out
        have HD9 := boxed (below_step HD8.out (Nat.le_refl _) hb9)
        clear hb9 hr
        go_wp2
        go_ret
        exact ⟨rfl, below_step HBx.out (Nat.le_refl _) HD9.out⟩
  · have hsm' : smb a0 1 = false := by simpa using hsm
    rw [hsm'] at hs
    clear hsm hsm' hO1
    go_enter Try.func4, Try.ntmps4
    go_wp2_with fail
    refine (awake_any _).mono ?_
    rintro e w1 ⟨rfl, hb1⟩
    have HB1 := boxed hb1
    clear hb1
    go_wp2_with (go_at_call 9; refine (hs _).mono ?_; rintro e w1' ⟨rfl, hw'⟩; subst w1')
    go_ret
    exact ⟨rfl, HB1.out⟩

set_option maxRecDepth 100000 in
theorem lifted (os : Os) (started : os.Started) (H : Type) (enc : TypeId × Value → H) :
    ReturnsInHanded {} Try.checked os 4 .any (Rows.runsSplitsSpec.pre6 enc Try.prog Try.f4 Rows.runsSplitsRow.domain false) (Rows.runsSplitsSpec.post enc Try.prog Try.f4 false true false false) := by
  refine returnsInHanded_of_change_sized (C := Try.checked) own started (by kernel_rfl) Try.func4
    (ChangeSpec.witness6 (enc := enc) (C := Try.checked) false ⟨#[], #[.int .i64 0, .slice none 0 0, .int .i64 0], []⟩ 8 (by kernel_rfl) (by kernel_rfl) (by kernel_rfl) (by kernel_rfl)) ?_
  intro W base args ds gs before hval0 hW hcnd hsz0 _
  have hval : ∀ (j : Nat) t v, Try.f4.params[j]? = some t → args[j]? = some v → Value.okWide Try.prog W .any base t v := hval0
  have hsz : (DataW.weightsEach Try.prog (Try.f4.params.toList ++ Rows.runsSplitsSpec.plain.varTypes Try.prog) (ds ++ gs)).all (· ≤ reachBytes) = true := hsz0
  have hW' := hW
  obtain ⟨p, q, hA0, hV, rfl, hfz, hnd⟩ := hW
  have hA : DataW.TrodAll enc Try.prog W 0 (fun _ => true) true Try.f4.params.toList args.toList ds p := hA0
  rw [Try.params4] at hA hval hsz
  obtain ⟨v0, vs0, d0, ds0, p0, q0, hargs, rfl, rfl, h0, r0⟩ := trodAll_cons hA
  obtain ⟨v1, vs1, d1, ds1, p1, q1, rfl, rfl, rfl, h1, r1⟩ := trodAll_cons r0
  obtain ⟨v2, vs2, d2, ds2, p2, q2, rfl, rfl, rfl, h2, r2⟩ := trodAll_cons r1
  obtain ⟨rfl, rfl, rfl⟩ := trodAll_nil r2
  obtain rfl : args = #[v0, v1, v2] := by cases args; simp_all
  obtain ⟨rfl, rfl⟩ := trodVars_none hV
  obtain ⟨a0, rfl, rfl, rfl, w0⟩ := open_int Try.underlying3 (hval 0 3 v0 rfl rfl) h0
  obtain ⟨ao1, n1, cap1, rfl⟩ := okWide_slice Try.underlying28 (hval 1 28 v1 rfl rfl)
  have k1 := h1
  have lt1 : ∀ x ∈ p1, x.block < W.heap.size := by obtain ⟨m, hm⟩ := k1; exact DataW.trod_lt m _ _ _ hm
  obtain ⟨hn1, O1, hO1⟩ : n1 ≤ maxLen ∧ ∃ O, OpsAt (fun _ => True) W ao1 n1 O := by
    obtain ⟨fuel, hf⟩ := k1
    exact open_ops hf
  obtain ⟨a2, rfl, rfl, rfl, w2⟩ := open_int Try.underlying3 (hval 2 3 v2 rfl rfl) h2
  clear hA0 hval0
  refine (walk W a0 w0 ao1 n1 cap1 O1 hn1 hO1 a2 w2).mono fun e W' ⟨he, hg⟩ => ?_
  subst he
  exact ⟨_, rfl, _, _, _, [], _, [], hW', trodAll_mk1 (shut_bool Try.underlying4 _), (trodAll_cons_mk (shut_int Try.underlying3 w0) (trodAll_cons_mk (Below.trod laidOut (by kernel_rfl) (of_decide_eq_true (by kernel_rfl)) k1 hg lt1) (trodAll_cons_mk (shut_int Try.underlying3 w2) trodAll_mk0))), rfl, hg.frame _, fun h => by cases h⟩

theorem proved : Rows.RunsSplitsSaid :=
  OpenClaim.holds_of_wide 4 Try.f4 rfl rfl rfl rfl rfl rfl rfl ⟨rfl, rfl, rfl, rfl, rfl⟩ rfl rfl rfl rfl rfl (by kernel_rfl) Try.func4 (by kernel_rfl)
    (of_decide_eq_true (by kernel_rfl)) (by unfold Func.isWrapper; first | (rw [if_pos (by decide +kernel)]; kernel_rfl) | (rw [if_neg (by decide +kernel)]; exact ⟨rfl, rfl⟩))
    (fun os started H enc _ => lifted os started H enc)
#print axioms proved
end Go.Proofs.Ytdchpiihjjjpfab.runsSplits
