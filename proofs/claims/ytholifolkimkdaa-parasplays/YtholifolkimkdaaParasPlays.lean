/-
  For every text and every list of edits the law ParasPlays answers true and leaves its arguments as they were: after any edits the index has the paragraphs of the text that they leave, and each edit tells which it touched, or is refused.
-/
import Derived.Test.YtholifolkimkdaaRows
import Derived.WalkKit
import Derived.ProofKit
import Derived.OpenShut
import Derived.SizedLaws
import Derived.ShutString
import Derived.ChangeOld
import Derived.Below
import Derived.Test.YtholifolkimkdaaGu
namespace Go.Proofs.Ytholifolkimkdaa.parasPlays
open Go.ChangeShapes Go.WideShapes Go.ChangeAt Go.RowKit
open Go.ChangeMaps (open_string shut_string)
set_option linter.unusedVariables false
set_option linter.unusedSimpArgs false

theorem own : ownKnob Try.prog.godebug = none := by kernel_rfl
theorem laidOut : laidOutB Try.prog = true := by kernel_rfl

set_option maxRecDepth 100000 in
set_option maxHeartbeats 2000000 in
theorem walk (w : World) (a0 : ByteArray) (w0 : a0.size ≤ maxLen) (ao1 : Option Addr) (n1 cap1 : Nat) (O1 : Nat → Opr) (hn1 : n1 ≤ maxLen) (hO1 : OpsAt w ao1 n1 O1) :
    Calls Try.prog 3 #[.string a0, .slice ao1 n1 cap1] w fun e w' => e = .returned (.bool true) ∧ Below w.heap.size w w' := by
  have HO := boxed hO1
  clear hO1
  unfold maxLen at w0 hn1
  go_enter Try.func3, Try.ntmps3
  go_wp2_with fail
  refine (awake_any _).mono ?_
  rintro e w1 ⟨rfl, hb1⟩
  have HB1 := boxed hb1
  clear hb1
  by_cases hbig : 3000 < a0.size
  · have t1 : decide ((3000 : Int) < (a0.size : Int)) = true := decide_eq_true (by omega)
    have t1' : decide (3000 < a0.size) = true := decide_eq_true hbig
    go_wp2
    go_ret
    exact ⟨rfl, HB1.out⟩
  · have t1 : decide ((3000 : Int) < (a0.size : Int)) = false := decide_eq_false (by omega)
    have t1' : decide (3000 < a0.size) = false := decide_eq_false hbig
    go_wp2_with fail
    refine (new_any a0 _ (by omega)).mono ?_
    rintro e w2 ⟨xb, ao, cap, rfl, hxb, hx, -, hb2⟩
    have HB2 := boxed (below_step HB1.out (Nat.le_refl _) hb2)
    have hxb' : w.heap.size ≤ xb := Nat.le_trans HB1.out.size hxb
    have HX2 := boxed hx
    have his := is_any hx
    clear hb2 hx hxb
    go_wp2_with fail
    refine his.mono ?_
    rintro e w3 ⟨rfl, hb3⟩
    have HB3 := boxed (below_step HB2.out (Nat.le_refl _) hb3)
    have HX3 := boxed (HX2.out.below hb3)
    clear hb3 HX2 his HB2 HB1 t1 t1' hbig
    go_wp2_with fail
    go_loopw [0, 6] (fun sv iv wr => ∃ (k : Nat) (r : ByteArray) (ao : Option Addr) (cap : Nat), k ≤ 40 ∧ k ≤ n1 ∧ sv = .string r ∧ iv = .int .i64 (k : Nat) ∧ r.size ≤ 65536 ∧ Box (TxAt wr xb ao cap (ln r)) ∧ Box (Below w.heap.size w wr)) (fun _ iv _ => 40 - (intOf iv).toNat)
    case atStart => exact ⟨0, a0, ao, cap, by omega, by omega, rfl, rfl, by have := HX3.out.len; rw [sp_sum, ln_len] at this; exact this, HX3, HB3⟩
    case round =>
      obtain ⟨k, r, ao2, cap2, hk1, hk2, rfl, rfl, hr, HX, HB⟩ := hrel
      clear HX3 HB3
      by_cases hkn : k < n1
      · by_cases hk40 : k < 40
        · have tk : decide ((k : Int) < (n1 : Int)) = true := decide_eq_true (by omega)
          have tk' : decide (k < n1) = true := decide_eq_true hkn
          have tq : decide ((k : Int) < 40) = true := decide_eq_true (by omega)
          obtain ⟨ho, b, off, rfl, c0, c1, c2, c3⟩ := (HO.out.below HB.out) k hkn
          generalize O1 k = o at *
          by_cases hm : 3000 < o.m.size
          · have tm : decide ((3000 : Int) < (o.m.size : Int)) = true := decide_eq_true (by omega)
            have tm' : decide (3000 < o.m.size) = true := decide_eq_true hm
            by_cases hr2 : 20000 < r.size
            · have tr : decide ((20000 : Int) < (r.size : Int)) = true := decide_eq_true (by omega)
              go_wp2
              go_ret
              exact ⟨rfl, HB.out⟩
            · have tr : decide ((20000 : Int) < (r.size : Int)) = false := decide_eq_false (by omega)
              go_wp2
              go_ret
              exact ⟨rfl, HB.out⟩
          · have tm : decide ((3000 : Int) < (o.m.size : Int)) = false := decide_eq_false (by omega)
            have tm' : decide (3000 < o.m.size) = false := decide_eq_false hm
            by_cases hr2 : 20000 < r.size
            · have tr : decide ((20000 : Int) < (r.size : Int)) = true := decide_eq_true (by omega)
              have tr' : decide (20000 < r.size) = true := decide_eq_true (by omega)
              go_wp2
              go_ret
              exact ⟨rfl, HB.out⟩
            · have tr : decide ((20000 : Int) < (r.size : Int)) = false := decide_eq_false (by omega)
              have tr' : decide (20000 < r.size) = false := decide_eq_false (by omega)
              have HST := boxed (step_any HX.out o (by omega))
              go_wp2_with fail
              refine HST.out.mono ?_
              rintro e w4 ⟨rfl, hg4, a4, cp4, hx4, -⟩
              have HB4 := boxed (HB.out.trans (grown_below hg4 hxb' HB.out.size))
              have HX4 := boxed hx4
              have hr4 := stR_size r o hr
              clear hg4 hx4 HST HX HB c0 c1 c2 c3
              generalize stR r o = r4 at *
              generalize stF r o = F4 at *
              generalize stO r o = O4 at *
              generalize stN r o = N4 at *
              go_wp2_with fail
              have hbA : Below w4.heap.size w4 (w4.alloc (.cells #[.int .i64 (F4 : Nat), .int .i64 (O4 : Nat), .int .i64 (N4 : Nat)] 30)) := new_below _ _
              refine (is_any (HX4.out.below hbA)).mono ?_
              rintro e w5 ⟨rfl, hb5⟩
              have HB5 := boxed (below_step (below_step HB4.out (Nat.le_refl _) hbA) (Nat.le_refl _) hb5)
              have HX5 := boxed ((HX4.out.below hbA).below hb5)
              clear hb5 hbA HX4 HB4
              go_wp2_with fail
              go_roundw
              case rel => exact ⟨k + 1, r4, a4, cp4, by omega, by omega, rfl, by go_num, hr4, HX5, HB5⟩
              case measure => simp [intOf]; omega
        · have tk : decide ((k : Int) < (n1 : Int)) = true := decide_eq_true (by omega)
          have tk' : decide (k < n1) = true := decide_eq_true hkn
          have tq : decide ((k : Int) < 40) = false := decide_eq_false (by omega)
          have tq' : decide (k < 40) = false := decide_eq_false (by omega)
          go_wp2
          go_ret
          exact ⟨rfl, HB.out⟩
      · have tk : decide ((k : Int) < (n1 : Int)) = false := decide_eq_false (by omega)
        have tk' : decide (k < n1) = false := decide_eq_false hkn
        go_wp2
        go_ret
        exact ⟨rfl, HB.out⟩

set_option maxRecDepth 100000 in
theorem lifted (os : Os) (started : os.Started) (H : Type) (enc : TypeId × Value → H) :
    ReturnsInHanded {} Try.checked os 3 .any (Rows.parasPlaysSpec.pre6 enc Try.prog Try.f3 Rows.parasPlaysRow.domain false) (Rows.parasPlaysSpec.post enc Try.prog Try.f3 false true false false) := by
  refine returnsInHanded_of_change_sized (C := Try.checked) own started (by kernel_rfl) Try.func3
    (ChangeSpec.witness6 (enc := enc) (C := Try.checked) false ⟨#[], #[.string ByteArray.empty, .slice none 0 0], []⟩ 8 (by kernel_rfl) (by kernel_rfl) (by kernel_rfl) (by kernel_rfl)) ?_
  intro W base args ds gs before hval0 hW hcnd hsz0 _
  have hval : ∀ (j : Nat) t v, Try.f3.params[j]? = some t → args[j]? = some v → Value.okWide Try.prog W .any base t v := hval0
  have hsz : (DataW.weightsEach Try.prog (Try.f3.params.toList ++ Rows.parasPlaysSpec.plain.varTypes Try.prog) (ds ++ gs)).all (· ≤ reachBytes) = true := hsz0
  have hW' := hW
  obtain ⟨p, q, hA0, hV, rfl, hfz, hnd⟩ := hW
  have hA : DataW.TrodAll enc Try.prog W 0 (fun _ => true) true Try.f3.params.toList args.toList ds p := hA0
  rw [Try.params3] at hA hval hsz
  obtain ⟨v0, vs0, d0, ds0, p0, q0, hargs, rfl, rfl, h0, r0⟩ := trodAll_cons hA
  obtain ⟨v1, vs1, d1, ds1, p1, q1, rfl, rfl, rfl, h1, r1⟩ := trodAll_cons r0
  obtain ⟨rfl, rfl, rfl⟩ := trodAll_nil r1
  obtain rfl : args = #[v0, v1] := by cases args; simp_all
  obtain ⟨rfl, rfl⟩ := trodVars_none hV
  obtain ⟨a0, rfl, rfl, rfl, w0⟩ := open_string Try.underlying9 (hval 0 9 v0 rfl rfl) h0
  obtain ⟨ao1, n1, cap1, rfl⟩ := okWide_slice Try.underlying22 (hval 1 22 v1 rfl rfl)
  have k1 := h1
  have lt1 : ∀ x ∈ p1, x.block < W.heap.size := by obtain ⟨m, hm⟩ := k1; exact DataW.trod_lt m _ _ _ hm
  obtain ⟨hn1, O1, hO1⟩ : n1 ≤ maxLen ∧ ∃ O, OpsAt W ao1 n1 O := by
    obtain ⟨fuel, hf⟩ := k1
    exact open_ops hf
  clear hA0 hval0
  refine (walk W a0 w0 ao1 n1 cap1 O1 hn1 hO1).mono fun e W' ⟨he, hg⟩ => ?_
  subst he
  exact ⟨_, rfl, _, _, _, [], _, [], hW', trodAll_mk1 (shut_bool Try.underlying4 _), (trodAll_cons_mk (shut_string Try.underlying9 w0) (trodAll_cons_mk (Below.trod laidOut (by kernel_rfl) (of_decide_eq_true (by kernel_rfl)) k1 hg lt1) trodAll_mk0)), rfl, hg.frame _, fun h => by cases h⟩

theorem proved : Rows.ParasPlaysSaid :=
  OpenClaim.holds_of_wide 3 Try.f3 rfl rfl rfl rfl rfl rfl rfl ⟨rfl, rfl, rfl, rfl, rfl⟩ rfl rfl rfl rfl rfl (by kernel_rfl) Try.func3 (by kernel_rfl)
    (of_decide_eq_true (by kernel_rfl)) (by unfold Func.isWrapper; first | (rw [if_pos (by decide +kernel)]; kernel_rfl) | (rw [if_neg (by decide +kernel)]; exact ⟨rfl, rfl⟩))
    (fun os started H enc _ => lifted os started H enc)
#print axioms proved
end Go.Proofs.Ytholifolkimkdaa.parasPlays
