/-
  For every text and any two edits the law ParasCopies answers true and leaves its arguments as they were: a copy and its original go their own ways.
-/
import Derived.Test.YtholifolkimkdabRows
import Derived.WalkKit
import Derived.ProofKit
import Derived.OpenShut
import Derived.SizedLaws
import Derived.ShutString
import Derived.ChangeOld
import Derived.Below
import Derived.Test.YtholifolkimkdabGw
namespace Go.Proofs.Ytholifolkimkdab.parasCopies
open Go.ChangeShapes Go.WideShapes Go.ChangeAt Go.RowKit
open Go.ChangeMaps (open_string shut_string)
set_option linter.unusedVariables false
set_option linter.unusedSimpArgs false

theorem own : ownKnob Try.prog.godebug = none := by kernel_rfl
theorem laidOut : laidOutB Try.prog = true := by kernel_rfl

set_option maxRecDepth 100000 in
set_option maxHeartbeats 8000000 in
theorem walk (w : World) (a0 : ByteArray) (w0 : a0.size ≤ maxLen) (o1 : Opr) (ho1 : OprOk o1) (o2 : Opr) (ho2 : OprOk o2) :
    Calls Try.prog 3 #[.string a0, oprV o1, oprV o2] w fun e w' => e = .returned (.bool true) ∧ Below w.heap.size w w' := by
  unfold maxLen at w0
  obtain ⟨out, a, b, m⟩ := o1
  obtain ⟨ha, hb, hm⟩ := ho1
  change m.size ≤ maxLen at hm
  unfold maxLen at hm
  obtain ⟨out2, a2, b2, m2⟩ := o2
  obtain ⟨ha2, hb2, hm2⟩ := ho2
  change m2.size ≤ maxLen at hm2
  unfold maxLen at hm2
  clear hb ha ha2 hb2
  obtain ⟨w1, hw1⟩ : ∃ w1, (w.alloc (.cells #[.bool out, .int .i64 a, .int .i64 b, .string m] 23)).alloc (.cells #[.bool out2, .int .i64 a2, .int .i64 b2, .string m2] 23) = w1 := ⟨_, rfl⟩
  have hb1 : Below w.heap.size w w1 := by rw [← hw1]; exact below_two _ _ _
  have hz1 : w1.heap.size = w.heap.size + 2 := by rw [← hw1]; simp
  have hO1 : w1.heap[w.heap.size]? = some (.cells #[.bool out, .int .i64 a, .int .i64 b, .string m] 23 (0, 0)) := by
    have h1 : (w.alloc (.cells #[.bool out, .int .i64 a, .int .i64 b, .string m] 23)).heap[w.heap.size]? = some (.cells #[.bool out, .int .i64 a, .int .i64 b, .string m] 23 (0, 0)) := heap_alloc_new w _
    rw [← hw1, (new_below _ _).block w.heap.size (by simp)]; exact h1
  have hO2 : w1.heap[w.heap.size + 1]? = some (.cells #[.bool out2, .int .i64 a2, .int .i64 b2, .string m2] 23 (0, 0)) := by
    have h1 := heap_alloc_new (w.alloc (.cells #[.bool out, .int .i64 a, .int .i64 b, .string m] 23)) (.cells #[.bool out2, .int .i64 a2, .int .i64 b2, .string m2] 23)
    rw [new_size] at h1
    rw [← hw1]; exact h1
  have HOP : Box (∀ W, Below w1.heap.size w1 W → W.cell? ⟨w.heap.size, 0, none⟩ = some (.bool out) ∧ W.cell? ⟨w.heap.size, 1, none⟩ = some (.int .i64 a) ∧ W.cell? ⟨w.heap.size, 2, none⟩ = some (.int .i64 b) ∧ W.cell? ⟨w.heap.size, 3, none⟩ = some (.string m)) := boxed (fun W hb => cells4 (by rw [hb.block _ (by omega)]; exact hO1))
  have HOQ : Box (∀ W, Below w1.heap.size w1 W → W.cell? ⟨w.heap.size + 1, 0, none⟩ = some (.bool out2) ∧ W.cell? ⟨w.heap.size + 1, 1, none⟩ = some (.int .i64 a2) ∧ W.cell? ⟨w.heap.size + 1, 2, none⟩ = some (.int .i64 b2) ∧ W.cell? ⟨w.heap.size + 1, 3, none⟩ = some (.string m2)) := boxed (fun W hb => cells4 (by rw [hb.block _ (by omega)]; exact hO2))
  have HB0 := boxed hb1
  clear hO1 hO2 hb1
  unfold oprV
  go_enter Try.func3, Try.ntmps3
  go_wp2_with fail
  refine (awake_any _).mono ?_
  rintro e w2 ⟨rfl, hb2⟩
  obtain ⟨p0, p1, p2, p3⟩ := HOP.out _ hb2
  obtain ⟨s0, s1, s2, s3⟩ := HOQ.out _ hb2
  have HD2 := boxed hb2
  clear hb2
  have HFB0 := boxed (HB0.out.trans (HD2.out.mono (by omega)))
  by_cases h1 : 3000 < a0.size
  · have t1 : decide ((3000 : Int) < (a0.size : Int)) = true := decide_eq_true (by omega)
    have t1' : decide (3000 < a0.size) = true := decide_eq_true (by omega)
    by_cases h2 : 3000 < m.size
    · have t2 : decide ((3000 : Int) < (m.size : Int)) = true := decide_eq_true (by omega)
      have t2' : decide (3000 < m.size) = true := decide_eq_true (by omega)
      by_cases h3 : 3000 < m2.size
      · have t3 : decide ((3000 : Int) < (m2.size : Int)) = true := decide_eq_true (by omega)
        have t3' : decide (3000 < m2.size) = true := decide_eq_true (by omega)
        go_wp2
        go_ret
        exact ⟨rfl, HFB0.out⟩
      · have t3 : decide ((3000 : Int) < (m2.size : Int)) = false := decide_eq_false (by omega)
        have t3' : decide (3000 < m2.size) = false := decide_eq_false (by omega)
        go_wp2
        go_ret
        exact ⟨rfl, HFB0.out⟩
    · have t2 : decide ((3000 : Int) < (m.size : Int)) = false := decide_eq_false (by omega)
      have t2' : decide (3000 < m.size) = false := decide_eq_false (by omega)
      by_cases h3 : 3000 < m2.size
      · have t3 : decide ((3000 : Int) < (m2.size : Int)) = true := decide_eq_true (by omega)
        have t3' : decide (3000 < m2.size) = true := decide_eq_true (by omega)
        go_wp2
        go_ret
        exact ⟨rfl, HFB0.out⟩
      · have t3 : decide ((3000 : Int) < (m2.size : Int)) = false := decide_eq_false (by omega)
        have t3' : decide (3000 < m2.size) = false := decide_eq_false (by omega)
        go_wp2
        go_ret
        exact ⟨rfl, HFB0.out⟩
  · have t1 : decide ((3000 : Int) < (a0.size : Int)) = false := decide_eq_false (by omega)
    have t1' : decide (3000 < a0.size) = false := decide_eq_false (by omega)
    by_cases h2 : 3000 < m.size
    · have t2 : decide ((3000 : Int) < (m.size : Int)) = true := decide_eq_true (by omega)
      have t2' : decide (3000 < m.size) = true := decide_eq_true (by omega)
      by_cases h3 : 3000 < m2.size
      · have t3 : decide ((3000 : Int) < (m2.size : Int)) = true := decide_eq_true (by omega)
        have t3' : decide (3000 < m2.size) = true := decide_eq_true (by omega)
        go_wp2
        go_ret
        exact ⟨rfl, HFB0.out⟩
      · have t3 : decide ((3000 : Int) < (m2.size : Int)) = false := decide_eq_false (by omega)
        have t3' : decide (3000 < m2.size) = false := decide_eq_false (by omega)
        go_wp2
        go_ret
        exact ⟨rfl, HFB0.out⟩
    · have t2 : decide ((3000 : Int) < (m.size : Int)) = false := decide_eq_false (by omega)
      have t2' : decide (3000 < m.size) = false := decide_eq_false (by omega)
      by_cases h3 : 3000 < m2.size
      · have t3 : decide ((3000 : Int) < (m2.size : Int)) = true := decide_eq_true (by omega)
        have t3' : decide (3000 < m2.size) = true := decide_eq_true (by omega)
        go_wp2
        go_ret
        exact ⟨rfl, HFB0.out⟩
      · have t3 : decide ((3000 : Int) < (m2.size : Int)) = false := decide_eq_false (by omega)
        have t3' : decide (3000 < m2.size) = false := decide_eq_false (by omega)
        go_wp2_with fail
        refine (new_any a0 _ (by omega)).mono ?_
        rintro e w3 ⟨xb, ao, cap, rfl, hxb, hx, -, hb3⟩
        have HD3 := boxed (below_step HD2.out (Nat.le_refl _) hb3)
        have hxb' : w1.heap.size ≤ xb := Nat.le_trans HD2.out.size hxb
        have HX3 := boxed hx
        have hcp := copy_any hx
        have hxl := hx.lt
        clear hb3 hx hxb p0 p1 p2 p3 s0 s1 s2 s3 t1 t1' t2 t2' t3 t3' HFB0
        go_wp2_with fail
        refine hcp.mono ?_
        rintro e w4 ⟨cb, ac, cc, rfl, hcb, hxc, hnc, hb4⟩
        have HD4 := boxed (below_step HD3.out (Nat.le_refl _) hb4)
        have HX4 := boxed (HX3.out.below hb4)
        have HC4 := boxed (And.intro hxc hnc)
        have HB4 := boxed hb4
        have hcl := hxc.lt
        obtain ⟨p0, p1, p2, p3⟩ := HOP.out _ HD4.out
        clear hcp hxc hnc hb4
        have HST := boxed (step_any HX4.out ⟨out, a, b, m⟩ (by show m.size ≤ _; omega))
        go_wp2_with fail
        refine HST.out.mono ?_
        rintro e w5 ⟨rfl, hg5, a5, c5, hx5, hd5⟩
        generalize stR a0 ⟨out, a, b, m⟩ = r5 at *
        generalize stF a0 ⟨out, a, b, m⟩ = F5 at *
        generalize stO a0 ⟨out, a, b, m⟩ = O5 at *
        generalize stN a0 ⟨out, a, b, m⟩ = N5 at *
        have HD5 := boxed (HD4.out.trans (grown_below hg5 hxb' HD4.out.size))
        have HC5 := boxed (IxAt.other HC4.out.1 HC4.out.2 hg5 hxl (by omega)).1
        have HX5 := boxed (And.intro hx5 hd5)
        have hz5 := hg5.size
        obtain ⟨wq, hwq⟩ : ∃ wq, w5.alloc (.cells #[.int .i64 (F5 : Nat), .int .i64 (O5 : Nat), .int .i64 (N5 : Nat)] 29) = wq := ⟨_, rfl⟩
        have hbq : Below w5.heap.size w5 wq := by rw [← hwq]; exact new_below _ _
        have HDq := boxed (below_step HD5.out (Nat.le_refl _) hbq)
        have HBq := boxed hbq
        have HSU := boxed (step_any (HC5.out.below hbq) ⟨out2, a2, b2, m2⟩ (by show m2.size ≤ _; omega))
        obtain ⟨s0, s1, s2, s3⟩ := HOQ.out _ HDq.out
        clear HST hg5 hx5 hd5 hbq HC4 HX4 p0 p1 p2 p3
        go_wp2_with fail
        refine HSU.out.mono ?_
        rintro e w6 ⟨rfl, hg6, a6, c6, hx6, -⟩
        generalize stR a0 ⟨out2, a2, b2, m2⟩ = r6 at *
        generalize stF a0 ⟨out2, a2, b2, m2⟩ = F6 at *
        generalize stO a0 ⟨out2, a2, b2, m2⟩ = O6 at *
        generalize stN a0 ⟨out2, a2, b2, m2⟩ = N6 at *
        have hcb' : w1.heap.size ≤ cb := Nat.le_trans HD3.out.size hcb
        have HD6 := boxed (HDq.out.trans (grown_below hg6 hcb' HDq.out.size))
        have HX6 := boxed (two_steps HX3.out HB4.out hcb hcl HX5.out.2 HX5.out.1 HBq.out hg6)
        obtain ⟨wr, hwr⟩ : ∃ wr, w6.alloc (.cells #[.int .i64 (F6 : Nat), .int .i64 (O6 : Nat), .int .i64 (N6 : Nat)] 29) = wr := ⟨_, rfl⟩
        have hbr : Below w6.heap.size w6 wr := by rw [← hwr]; exact new_below _ _
        have HDr := boxed (below_step HD6.out (Nat.le_refl _) hbr)
        have HI1 := boxed (is_any (HX6.out.below hbr))
        have HI2 := boxed (fun W (hb : Below wr.heap.size wr W) => is_any ((hx6.below hbr).below hb))
        clear HSU hg6 hx6 hbr HX5 HBq s0 s1 s2 s3
        go_wp2_with fail
        refine HI1.out.mono ?_
        rintro e w7 ⟨rfl, hb7⟩
        have HD7 := boxed (below_step HDr.out (Nat.le_refl _) hb7)
        have hI3 := HI2.out _ hb7
        clear hb7 HI1 HI2
        go_wp2_with fail
        refine hI3.mono ?_
        rintro e w8 ⟨rfl, hb8⟩
        have HD8 := boxed (below_step HD7.out (Nat.le_refl _) hb8)
        clear hb8 hI3
        go_wp2
        go_ret
        exact ⟨rfl, HB0.out.trans (HD8.out.mono (by omega))⟩

set_option maxRecDepth 100000 in
theorem lifted (os : Os) (started : os.Started) (H : Type) (enc : TypeId × Value → H) :
    ReturnsInHanded {} Try.checked os 3 .any (Rows.parasCopiesSpec.pre6 enc Try.prog Try.f3 Rows.parasCopiesRow.domain false) (Rows.parasCopiesSpec.post enc Try.prog Try.f3 false true false false) := by
  refine returnsInHanded_of_change_sized (C := Try.checked) own started (by kernel_rfl) Try.func3
    (ChangeSpec.witness6 (enc := enc) (C := Try.checked) false ⟨#[], #[.string ByteArray.empty, .agg #[.bool false, .int .i64 0, .int .i64 0, .string ByteArray.empty], .agg #[.bool false, .int .i64 0, .int .i64 0, .string ByteArray.empty]], []⟩ 8 (by kernel_rfl) (by kernel_rfl) (by kernel_rfl) (by kernel_rfl)) ?_
  intro W base args ds gs before hval0 hW hcnd hsz0 _
  have hval : ∀ (j : Nat) t v, Try.f3.params[j]? = some t → args[j]? = some v → Value.okWide Try.prog W .any base t v := hval0
  have hsz : (DataW.weightsEach Try.prog (Try.f3.params.toList ++ Rows.parasCopiesSpec.plain.varTypes Try.prog) (ds ++ gs)).all (· ≤ reachBytes) = true := hsz0
  have hW' := hW
  obtain ⟨p, q, hA0, hV, rfl, hfz, hnd⟩ := hW
  have hA : DataW.TrodAll enc Try.prog W 0 (fun _ => true) true Try.f3.params.toList args.toList ds p := hA0
  rw [Try.params3] at hA hval hsz
  obtain ⟨v0, vs0, d0, ds0, p0, q0, hargs, rfl, rfl, h0, r0⟩ := trodAll_cons hA
  obtain ⟨v1, vs1, d1, ds1, p1, q1, rfl, rfl, rfl, h1, r1⟩ := trodAll_cons r0
  obtain ⟨v2, vs2, d2, ds2, p2, q2, rfl, rfl, rfl, h2, r2⟩ := trodAll_cons r1
  obtain ⟨rfl, rfl, rfl⟩ := trodAll_nil r2
  obtain rfl : args = #[v0, v1, v2] := by cases args; simp_all
  obtain ⟨rfl, rfl⟩ := trodVars_none hV
  obtain ⟨a0, rfl, rfl, rfl, w0⟩ := open_string Try.underlying9 (hval 0 9 v0 rfl rfl) h0
  have k1 := h1
  have lt1 : ∀ x ∈ p1, x.block < W.heap.size := by obtain ⟨m, hm⟩ := k1; exact DataW.trod_lt m _ _ _ hm
  obtain ⟨o1, rfl, ho1⟩ : ∃ o : Opr, v1 = oprV o ∧ OprOk o := by
    obtain ⟨fuel, hf⟩ := k1
    exact op_value hf
  have k2 := h2
  have lt2 : ∀ x ∈ p2, x.block < W.heap.size := by obtain ⟨m, hm⟩ := k2; exact DataW.trod_lt m _ _ _ hm
  obtain ⟨o2, rfl, ho2⟩ : ∃ o : Opr, v2 = oprV o ∧ OprOk o := by
    obtain ⟨fuel, hf⟩ := k2
    exact op_value hf
  clear hA0 hval0
  refine (walk W a0 w0 o1 ho1 o2 ho2).mono fun e W' ⟨he, hg⟩ => ?_
  subst he
  exact ⟨_, rfl, _, _, _, [], _, [], hW', trodAll_mk1 (shut_bool Try.underlying4 _), (trodAll_cons_mk (shut_string Try.underlying9 w0) (trodAll_cons_mk (Below.trod laidOut (by kernel_rfl) (of_decide_eq_true (by kernel_rfl)) k1 hg lt1) (trodAll_cons_mk (Below.trod laidOut (by kernel_rfl) (of_decide_eq_true (by kernel_rfl)) k2 hg lt2) trodAll_mk0))), rfl, hg.frame _, fun h => by cases h⟩

theorem proved : Rows.ParasCopiesSaid :=
  OpenClaim.holds_of_wide 3 Try.f3 rfl rfl rfl rfl rfl rfl rfl ⟨rfl, rfl, rfl, rfl, rfl⟩ rfl rfl rfl rfl rfl (by kernel_rfl) Try.func3 (by kernel_rfl)
    (of_decide_eq_true (by kernel_rfl)) (by unfold Func.isWrapper; first | (rw [if_pos (by decide +kernel)]; kernel_rfl) | (rw [if_neg (by decide +kernel)]; exact ⟨rfl, rfl⟩))
    (fun os started H enc _ => lifted os started H enc)
#print axioms proved
end Go.Proofs.Ytholifolkimkdab.parasCopies
