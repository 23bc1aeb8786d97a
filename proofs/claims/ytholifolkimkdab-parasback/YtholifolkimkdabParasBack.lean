/-
  For every text and every edit the law ParasBack answers true and leaves its arguments as they were: what goes in and out again leaves the paragraphs that were there.
-/
import Derived.Test.YtholifolkimkdabRows
import Derived.WalkKit
import Derived.ProofKit
import Derived.OpenShut
import Derived.SizedLaws
import Derived.ShutString
import Derived.ChangeOld
import Derived.Below
import Derived.Test.YtholifolkimkdabGv
namespace Go.Proofs.Ytholifolkimkdab.parasBack
open Go.ChangeShapes Go.WideShapes Go.ChangeAt Go.RowKit
open Go.ChangeMaps (open_string shut_string)
set_option linter.unusedVariables false
set_option linter.unusedSimpArgs false

theorem own : ownKnob Try.prog.godebug = none := by kernel_rfl
theorem laidOut : laidOutB Try.prog = true := by kernel_rfl

set_option maxRecDepth 100000 in
set_option maxHeartbeats 6000000 in
theorem walk (w : World) (a0 : ByteArray) (w0 : a0.size ≤ maxLen) (o1 : Opr) (ho1 : OprOk o1) :
    Calls Try.prog 4 #[.string a0, oprV o1] w fun e w' => e = .returned (.bool true) ∧ Below w.heap.size w w' := by
  unfold maxLen at w0
  obtain ⟨out, a, b, m⟩ := o1
  obtain ⟨ha, hb, hm⟩ := ho1
  change -9223372036854775808 ≤ a ∧ a ≤ 9223372036854775807 at ha
  change m.size ≤ maxLen at hm
  unfold maxLen at hm
  clear hb
  obtain ⟨w1, hw1⟩ : ∃ w1, w.alloc (.cells #[.bool out, .int .i64 a, .int .i64 b, .string m] 23) = w1 := ⟨_, rfl⟩
  have hb1 : Below w.heap.size w w1 := by rw [← hw1]; exact new_below _ _
  have hz1 : w1.heap.size = w.heap.size + 1 := by rw [← hw1]; exact new_size _ _
  have hO1 : w1.heap[w.heap.size]? = some (.cells #[.bool out, .int .i64 a, .int .i64 b, .string m] 23 (0, 0)) := by rw [← hw1]; exact heap_alloc_new w _
  have HOP : Box (∀ W, Below w1.heap.size w1 W → W.cell? ⟨w.heap.size, 0, none⟩ = some (.bool out) ∧ W.cell? ⟨w.heap.size, 1, none⟩ = some (.int .i64 a) ∧ W.cell? ⟨w.heap.size, 2, none⟩ = some (.int .i64 b) ∧ W.cell? ⟨w.heap.size, 3, none⟩ = some (.string m)) := boxed (fun W hb => cells4 (by rw [hb.block _ (by omega)]; exact hO1))
  have HB0 := boxed hb1
  clear hO1 hb1
  unfold oprV
  go_enter Try.func4, Try.ntmps4
  go_wp2_with fail
  refine (awake_any _).mono ?_
  rintro e w2 ⟨rfl, hb2⟩
  obtain ⟨p0, p1, p2, p3⟩ := HOP.out _ hb2
  have HD2 := boxed hb2
  clear hb2
  by_cases hbig : 3000 < a0.size ∨ 3000 < m.size
  · have HF := boxed (HB0.out.trans (HD2.out.mono (by omega)))
    by_cases h1 : 3000 < a0.size
    · have t1 : decide ((3000 : Int) < (a0.size : Int)) = true := decide_eq_true (by omega)
      have t1' : decide (3000 < a0.size) = true := decide_eq_true h1
      clear hbig
      by_cases h2 : 3000 < m.size
      · have t2 : decide ((3000 : Int) < (m.size : Int)) = true := decide_eq_true (by omega)
        go_wp2
        go_ret
        exact ⟨rfl, HF.out⟩
      · have t2 : decide ((3000 : Int) < (m.size : Int)) = false := decide_eq_false (by omega)
        go_wp2
        go_ret
        exact ⟨rfl, HF.out⟩
    · have h2 : 3000 < m.size := hbig.resolve_left h1
      have t1 : decide ((3000 : Int) < (a0.size : Int)) = false := decide_eq_false (by omega)
      have t1' : decide (3000 < a0.size) = false := decide_eq_false (by omega)
      have t2 : decide ((3000 : Int) < (m.size : Int)) = true := decide_eq_true (by omega)
      have t2' : decide (3000 < m.size) = true := decide_eq_true (by omega)
      clear hbig
      go_wp2
      go_ret
      exact ⟨rfl, HF.out⟩
  · obtain ⟨h1, h2⟩ : ¬ 3000 < a0.size ∧ ¬ 3000 < m.size := by omega
    have t1 : decide ((3000 : Int) < (a0.size : Int)) = false := decide_eq_false (by omega)
    have t1' : decide (3000 < a0.size) = false := decide_eq_false (by omega)
    have t2 : decide ((3000 : Int) < (m.size : Int)) = false := decide_eq_false (by omega)
    have t2' : decide (3000 < m.size) = false := decide_eq_false (by omega)
    clear hbig
    go_wp2_with fail
    refine (new_any a0 _ (by omega)).mono ?_
    rintro e w3 ⟨xb, ao, cap, rfl, hxb, hx, -, hb3⟩
    have HD3 := boxed (below_step HD2.out (Nat.le_refl _) hb3)
    obtain ⟨q0, q1, q2, q3⟩ := HOP.out _ HD3.out
    have hxb' : w1.heap.size ≤ xb := Nat.le_trans HD2.out.size hxb
    have hins := insert_any hx a m (by omega)
    have hbk := back_plain (ln a0) a (ln m)
    rw [ln_len] at hbk
    clear hb3 hx hxb p0 p1 p2 p3 t1 t1' t2 t2'
    by_cases he : insE (ln a0) a m.size = 0
    · obtain ⟨k1, k2, k3, k4, k5⟩ := hbk he
      rw [ln_len] at k5
      rw [he] at hins
      clear hbk he
      generalize insF (ln a0) a (ln m) = F at *
      generalize insO (ln a0) a (ln m) = O at *
      generalize insN (ln a0) a (ln m) = N at *
      go_wp2_with fail
      refine hins.mono ?_
      rintro e w4 ⟨rfl, hg4, a4, c4, hx4, -⟩
      have HD4 := boxed (HD3.out.trans (grown_below hg4 hxb' HD3.out.size))
      have hdl := fun W (hb : Below w4.heap.size w4 W) => delete_any (hx4.below hb) a (a + (m.size : Int))
      rw [k3] at hdl
      rw [k2] at hdl
      have hz4 := HD4.out.size
      clear hins hg4 hx4
      obtain ⟨wa, hwa⟩ : ∃ wa, w4.alloc (.cells #[.int .i64 (F : Nat), .int .i64 (O : Nat), .int .i64 (N : Nat)] 29) = wa := ⟨_, rfl⟩
      have hba : Below w4.heap.size w4 wa := by rw [← hwa]; exact new_below _ _
      have HDa := boxed (below_step HD4.out (Nat.le_refl _) hba)
      have hdla := hdl _ hba
      obtain ⟨r0, r1, r2, r3⟩ := HOP.out _ HDa.out
      go_wp2_with fail
      clear hdl
      generalize delF (insL (ln a0) a (ln m)) a (a + (m.size : Int)) = F2 at *
      generalize delO (insL (ln a0) a (ln m)) a (a + (m.size : Int)) = O2 at *
      generalize delN (insL (ln a0) a (ln m)) a (a + (m.size : Int)) = N2 at *
      refine hdla.mono ?_
      rintro e w5 ⟨rfl, hg5, a5, c5, hx5, -⟩
      have HD5 := boxed (HDa.out.trans (grown_below hg5 hxb' HDa.out.size))
      obtain ⟨wc, hwc⟩ : ∃ wc, w5.alloc (.cells #[.int .i64 (F2 : Nat), .int .i64 (O2 : Nat), .int .i64 (N2 : Nat)] 29) = wc := ⟨_, rfl⟩
      have hbc : Below w5.heap.size w5 wc := by rw [← hwc]; exact new_below _ _
      have HDc := boxed (below_step HD5.out (Nat.le_refl _) hbc)
      have HIS := boxed (is_any (hx5.below hbc))
      clear hdla hg5 hx5 hbc hba r0 r1 r2 r3 q0 q1 q2 q3
      go_wp2_with fail
      refine HIS.out.mono ?_
      rintro e w6 ⟨rfl, hb6⟩
      have HD6 := boxed (below_step HDc.out (Nat.le_refl _) hb6)
      clear hb6 HIS
      go_wp2
      go_ret
      exact ⟨rfl, HB0.out.trans (HD6.out.mono (by omega))⟩
    · obtain ⟨k1, k2, k3, k4⟩ := ins_bad (l := ln a0) (a := a) (m := ln m) (by rw [ln_len]; exact he)
      rw [k1, k2, k3, k4] at hins
      clear hbk k1 k2 k3 k4
      have tC : (((insE (ln a0) a m.size : Nat) : Int) == 0) = false := by rw [beq_eq_false_iff_ne]; omega
      have tC' : (((insE (ln a0) a m.size : Nat) : Int) != 0) = true := by simp; omega
      generalize insE (ln a0) a m.size = C at *
      go_wp2_with fail
      refine hins.mono ?_
      rintro e w4 ⟨rfl, hg4, a4, c4, hx4, -⟩
      have HD4 := boxed (HD3.out.trans (grown_below hg4 hxb' HD3.out.size))
      obtain ⟨wa, hwa⟩ : ∃ wa, w4.alloc (.cells #[.int .i64 0, .int .i64 0, .int .i64 0] 29) = wa := ⟨_, rfl⟩
      have hba : Below w4.heap.size w4 wa := by rw [← hwa]; exact new_below _ _
      have HDa := boxed (below_step HD4.out (Nat.le_refl _) hba)
      have HIS := boxed (is_any (hx4.below hba))
      rw [← hwa] at HIS HDa
      replace hwa := boxed hwa
      clear hins hg4 hx4 hba he
      go_wp2_with fail
      refine HIS.out.mono ?_
      rintro e w6 ⟨rfl, hb6⟩
      have HD6 := boxed (below_step HDa.out (Nat.le_refl _) hb6)
      clear hb6 HIS
      go_wp2
      go_ret
      exact ⟨rfl, HB0.out.trans (HD6.out.mono (by omega))⟩

set_option maxRecDepth 100000 in
theorem lifted (os : Os) (started : os.Started) (H : Type) (enc : TypeId × Value → H) :
    ReturnsInHanded {} Try.checked os 4 .any (Rows.parasBackSpec.pre6 enc Try.prog Try.f4 Rows.parasBackRow.domain false) (Rows.parasBackSpec.post enc Try.prog Try.f4 false true false false) := by
  refine returnsInHanded_of_change_sized (C := Try.checked) own started (by kernel_rfl) Try.func4
    (ChangeSpec.witness6 (enc := enc) (C := Try.checked) false ⟨#[], #[.string ByteArray.empty, .agg #[.bool false, .int .i64 0, .int .i64 0, .string ByteArray.empty]], []⟩ 8 (by kernel_rfl) (by kernel_rfl) (by kernel_rfl) (by kernel_rfl)) ?_
  intro W base args ds gs before hval0 hW hcnd hsz0 _
  have hval : ∀ (j : Nat) t v, Try.f4.params[j]? = some t → args[j]? = some v → Value.okWide Try.prog W .any base t v := hval0
  have hsz : (DataW.weightsEach Try.prog (Try.f4.params.toList ++ Rows.parasBackSpec.plain.varTypes Try.prog) (ds ++ gs)).all (· ≤ reachBytes) = true := hsz0
  have hW' := hW
  obtain ⟨p, q, hA0, hV, rfl, hfz, hnd⟩ := hW
  have hA : DataW.TrodAll enc Try.prog W 0 (fun _ => true) true Try.f4.params.toList args.toList ds p := hA0
  rw [Try.params4] at hA hval hsz
  obtain ⟨v0, vs0, d0, ds0, p0, q0, hargs, rfl, rfl, h0, r0⟩ := trodAll_cons hA
  obtain ⟨v1, vs1, d1, ds1, p1, q1, rfl, rfl, rfl, h1, r1⟩ := trodAll_cons r0
  obtain ⟨rfl, rfl, rfl⟩ := trodAll_nil r1
  obtain rfl : args = #[v0, v1] := by cases args; simp_all
  obtain ⟨rfl, rfl⟩ := trodVars_none hV
  obtain ⟨a0, rfl, rfl, rfl, w0⟩ := open_string Try.underlying9 (hval 0 9 v0 rfl rfl) h0
  have k1 := h1
  have lt1 : ∀ x ∈ p1, x.block < W.heap.size := by obtain ⟨m, hm⟩ := k1; exact DataW.trod_lt m _ _ _ hm
  obtain ⟨o1, rfl, ho1⟩ : ∃ o : Opr, v1 = oprV o ∧ OprOk o := by
    obtain ⟨fuel, hf⟩ := k1
    exact op_value hf
  clear hA0 hval0
  refine (walk W a0 w0 o1 ho1).mono fun e W' ⟨he, hg⟩ => ?_
  subst he
  exact ⟨_, rfl, _, _, _, [], _, [], hW', trodAll_mk1 (shut_bool Try.underlying4 _), (trodAll_cons_mk (shut_string Try.underlying9 w0) (trodAll_cons_mk (Below.trod laidOut (by kernel_rfl) (of_decide_eq_true (by kernel_rfl)) k1 hg lt1) trodAll_mk0)), rfl, hg.frame _, fun h => by cases h⟩

theorem proved : Rows.ParasBackSaid :=
  OpenClaim.holds_of_wide 4 Try.f4 rfl rfl rfl rfl rfl rfl rfl ⟨rfl, rfl, rfl, rfl, rfl⟩ rfl rfl rfl rfl rfl (by kernel_rfl) Try.func4 (by kernel_rfl)
    (of_decide_eq_true (by kernel_rfl)) (by unfold Func.isWrapper; first | (rw [if_pos (by decide +kernel)]; kernel_rfl) | (rw [if_neg (by decide +kernel)]; exact ⟨rfl, rfl⟩))
    (fun os started H enc _ => lifted os started H enc)
#print axioms proved
end Go.Proofs.Ytholifolkimkdab.parasBack
