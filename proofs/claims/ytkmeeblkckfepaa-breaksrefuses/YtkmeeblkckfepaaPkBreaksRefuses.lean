/-
  For any width and any settings the statement BreaksRefuses of the program returns true: what may not be is refused, for the first of them, and beside it nothing is told. No condition besides the statement's own.
-/
import Derived.Test.YtkmeeblkckfepaaRows
import Derived.WalkKit
import Derived.ProofKit
import Derived.OpenShut
import Derived.SizedLaws
import Derived.ShutString
import Derived.ChangeOld
import Derived.Below
import Derived.Test.YtkmeeblkckfepaaPk18
import Derived.Test.YtkmeeblkckfepaaPk17
namespace Go.Proofs.Ytkmeeblkckfepaa.breaksRefuses
open Go.ChangeShapes Go.WideShapes Go.ChangeAt Go.RowKit
open Go.ChangeMaps (open_string shut_string)
set_option linter.unusedVariables false
set_option linter.unusedSimpArgs false

theorem own : ownKnob Try.prog.godebug = none := by kernel_rfl
theorem laidOut : laidOutB Try.prog = true := by kernel_rfl

set_option maxRecDepth 100000 in
set_option maxHeartbeats 8000000 in
theorem walk (w : World) (a0 : Int) (w0 : (Lit.int .i64 a0).wf = true) (s1 : Stg) (hs1 : I64 s1.t ∧ I64 s1.l ∧ I64 s1.a ∧ I64 s1.d ∧ I64 s1.z ∧ I64 s1.o ∧ I64 s1.i) :
    Calls Try.prog 4 #[.int .i64 a0, s1.val] w fun e w' => e = .returned (.bool true) ∧ Below w.heap.size w w' := by
  have HA := boxed (And.intro w0 hs1)
  clear w0 hs1
  have KF : Box (∀ W, Below (w.alloc (.cells #[.int .i64 s1.t, .int .i64 s1.l, .int .i64 s1.a, .int .i64 s1.d, .int .i64 s1.z, .int .i64 s1.o, .int .i64 s1.i] 24)).heap.size (w.alloc (.cells #[.int .i64 s1.t, .int .i64 s1.l, .int .i64 s1.a, .int .i64 s1.d, .int .i64 s1.z, .int .i64 s1.o, .int .i64 s1.i] 24)) W → (W.cell? ⟨w.heap.size, 0, none⟩ = some (.int .i64 s1.t) ∧ W.cell? ⟨w.heap.size, 1, none⟩ = some (.int .i64 s1.l) ∧ W.cell? ⟨w.heap.size, 2, none⟩ = some (.int .i64 s1.a) ∧ W.cell? ⟨w.heap.size, 3, none⟩ = some (.int .i64 s1.d) ∧ W.cell? ⟨w.heap.size, 4, none⟩ = some (.int .i64 s1.z) ∧ W.cell? ⟨w.heap.size, 5, none⟩ = some (.int .i64 s1.o) ∧ W.cell? ⟨w.heap.size, 6, none⟩ = some (.int .i64 s1.i)) ∧ Below w.heap.size w W) := boxed (fun W hb => ⟨⟨kept_first hb 0, kept_first hb 1, kept_first hb 2, kept_first hb 3, kept_first hb 4, kept_first hb 5, kept_first hb 6⟩, kept_below (Below.refl _ w) (Nat.le_refl _) hb⟩)
  have hC := fun W => bcheck_any a0 s1 W
  have hR := fun W => refsett_any s1 W
  by_cases hw : okW a0 = true
  · have hw2 : 1 ≤ a0 ∧ a0 ≤ 1073741824 := by simpa [okW] using hw
    have d1 : decide (a0 < 1) = false := decide_eq_false (by omega)
    have d2 : decide (1073741824 < a0) = false := decide_eq_false (by omega)
    by_cases hs : okS s1 = true
    · have hv : chkV a0 s1 = 0 := by unfold chkV; rw [if_pos hw, if_pos hs]
      rw [hv] at hC
      rw [hs] at hR
      clear hv
      unfold Stg.val at *
      go_enter Try.func4, Try.ntmps4
      go_wp2_with fail
      refine (awake9_any _).mono ?_
      rintro e w1 ⟨rfl, hb1⟩
      have HB1 := boxed hb1
      clear hb1
      go_wp2_with fail
      refine (words_any _).mono ?_
      rintro e w2 ⟨b, rfl, hb, he, hb2⟩
      have HB2 := boxed (below_step HB1.out (Nat.le_refl _) hb2)
      have hP := para9_some (fun _ => True) (some ⟨b, 0, none⟩) 7 7 wI w2 (its_wI trivial he) 9 (by omega) rgt_wI (by rw [nbk_wI]; decide)
      clear hb2 HB1 he hb
      go_wp2_with fail
      refine hP.mono ?_
      rintro e w3 ⟨pb, rfl, hpa, hb3⟩
      have HB3 := boxed (below_step HB2.out (Nat.le_refl _) hb3)
      obtain ⟨⟨c0, c1, c2, c3, c4, c5, c6⟩, -⟩ := KF.out _ HB3.out
      have HP := boxed hpa
      clear hpa hb3 HB2 hP
      have hK := break_any (s := s1) HP.out ((rgt_iff wI 7).1 rgt_wI).2.1 ((rgt_iff wI 7).1 rgt_wI).2.2.2 ((rgt_iff wI 7).1 rgt_wI).1 ((rgt_iff wI 7).1 rgt_wI).2.2.1 (width := a0) hw2 hs
      unfold Stg.val at hK
      go_wp2_with fail
      refine hK.mono ?_
      rintro e w4 ⟨v, c, l, em, rfl, hB, hne, ho, hb4⟩
      have HB4 := boxed (below_step HB3.out (Nat.le_refl _) hb4)
      obtain ⟨a1, c1x, rfl⟩ := own_shape ho
      have hl : 0 < l.length := List.length_pos_iff.2 hne
      have hl2 : l.length ≤ 262144 := by have := brk_len hB; rw [nbk_wI] at this; omega
      clear hb4 HB3 hK HP c0 c1 c2 c3 c4 c5 c6 hB hne ho
      generalize l.length = ln at *
      have d3 : decide ((0 : Int) < (ln : Int)) = true := decide_eq_true (by omega)
      obtain ⟨W5, hW5⟩ : ∃ W5, W5 = w4.alloc (.cells #[.slice a1 ln c1x, .int .i64 c, .bool em] 31) := ⟨_, rfl⟩
      have HB5 : Box (Below (w.alloc (.cells #[.int .i64 s1.t, .int .i64 s1.l, .int .i64 s1.a, .int .i64 s1.d, .int .i64 s1.z, .int .i64 s1.o, .int .i64 s1.i] 24)).heap.size (w.alloc (.cells #[.int .i64 s1.t, .int .i64 s1.l, .int .i64 s1.a, .int .i64 s1.d, .int .i64 s1.z, .int .i64 s1.o, .int .i64 s1.i] 24)) W5) := boxed (by rw [hW5]; exact HB4.out.alloc HB4.out.size _)
      have hE5 : W5.heap[w4.heap.size]? = some (.cells #[.slice a1 ln c1x, .int .i64 c, .bool em] 31 (0, 0)) := by rw [hW5]; exact heap_alloc_new _ _
      obtain ⟨⟨c0, c1, c2, c3, c4, c5, c6⟩, -⟩ := KF.out _ HB5.out
      have HE5 := boxed hE5
      clear HB4 hE5
      subst hW5
      go_wp2_with fail
      refine (hC _).mono ?_
      rintro e w6 ⟨rfl, hb6⟩
      have HB6 := boxed (below_step HB5.out (Nat.le_refl _) hb6)
      have hE6 := (hb6.block w4.heap.size (by simp)).trans HE5.out
      obtain ⟨⟨x0, x1, x2⟩, -⟩ := cells3 hE6
      clear c0 c1 c2 c3 c4 c5 c6
      obtain ⟨⟨c0, c1, c2, c3, c4, c5, c6⟩, -⟩ := KF.out _ HB6.out
      have HE6 := boxed hE6
      clear hb6 hE6 HB5 HE5
      go_wp2_with fail
      refine (hR _).mono ?_
      rintro e w7 ⟨rfl, hb7⟩
      have HB7 := boxed (below_step HB6.out (Nat.le_refl _) hb7)
      have hE7 := (hb7.block w4.heap.size (heap_lt HE6.out)).trans HE6.out
      obtain ⟨⟨y0, y1, y2⟩, -⟩ := cells3 hE7
      clear c0 c1 c2 c3 c4 c5 c6 x0 x1 x2 hb7 hE7
      go_wp2_with fail
      go_ret
      exact ⟨rfl, (KF.out _ HB7.out).2⟩
    · have hs' : okS s1 = false := by simpa using hs
      have hv : chkV a0 s1 = 80 := by unfold chkV; rw [if_pos hw, if_neg hs]
      have hv0 : chkV a0 s1 ≠ 0 := by rw [hv]; decide
      have hbad := fun W pb => break_bad (w := W) (pb := pb) hv0
      rw [hv] at hC hbad
      rw [hs'] at hR
      clear hv hv0
      unfold Stg.val at *
      go_enter Try.func4, Try.ntmps4
      go_wp2_with fail
      refine (awake9_any _).mono ?_
      rintro e w1 ⟨rfl, hb1⟩
      have HB1 := boxed hb1
      clear hb1
      go_wp2_with fail
      refine (words_any _).mono ?_
      rintro e w2 ⟨b, rfl, hb, he, hb2⟩
      have HB2 := boxed (below_step HB1.out (Nat.le_refl _) hb2)
      have hP := para9_some (fun _ => True) (some ⟨b, 0, none⟩) 7 7 wI w2 (its_wI trivial he) 9 (by omega) rgt_wI (by rw [nbk_wI]; decide)
      clear hb2 HB1 he hb
      go_wp2_with fail
      refine hP.mono ?_
      rintro e w3 ⟨pb, rfl, hpa, hb3⟩
      have HB3 := boxed (below_step HB2.out (Nat.le_refl _) hb3)
      obtain ⟨⟨c0, c1, c2, c3, c4, c5, c6⟩, -⟩ := KF.out _ HB3.out
      have HP := boxed hpa
      clear hpa hb3 HB2 hP
      have hK := hbad w3 pb
      unfold Stg.val at hK
      go_wp2_with fail
      refine hK.mono ?_
      rintro e w4 ⟨rfl, hb4⟩
      have HB4 := boxed (below_step HB3.out (Nat.le_refl _) hb4)
      clear hb4 HB3 hK HP c0 c1 c2 c3 c4 c5 c6
      obtain ⟨W5, hW5⟩ : ∃ W5, W5 = w4.alloc (.cells #[.slice none 0 0, .int .i64 0, .bool false] 31) := ⟨_, rfl⟩
      have HB5 : Box (Below (w.alloc (.cells #[.int .i64 s1.t, .int .i64 s1.l, .int .i64 s1.a, .int .i64 s1.d, .int .i64 s1.z, .int .i64 s1.o, .int .i64 s1.i] 24)).heap.size (w.alloc (.cells #[.int .i64 s1.t, .int .i64 s1.l, .int .i64 s1.a, .int .i64 s1.d, .int .i64 s1.z, .int .i64 s1.o, .int .i64 s1.i] 24)) W5) := boxed (by rw [hW5]; exact HB4.out.alloc HB4.out.size _)
      have hE5 : W5.heap[w4.heap.size]? = some (.cells #[.slice none 0 0, .int .i64 0, .bool false] 31 (0, 0)) := by rw [hW5]; exact heap_alloc_new _ _
      obtain ⟨⟨c0, c1, c2, c3, c4, c5, c6⟩, -⟩ := KF.out _ HB5.out
      have HE5 := boxed hE5
      clear HB4 hE5
      subst hW5
      go_wp2_with fail
      refine (hC _).mono ?_
      rintro e w6 ⟨rfl, hb6⟩
      have HB6 := boxed (below_step HB5.out (Nat.le_refl _) hb6)
      have hE6 := (hb6.block w4.heap.size (by simp)).trans HE5.out
      obtain ⟨⟨x0, x1, x2⟩, -⟩ := cells3 hE6
      clear c0 c1 c2 c3 c4 c5 c6
      obtain ⟨⟨c0, c1, c2, c3, c4, c5, c6⟩, -⟩ := KF.out _ HB6.out
      have HE6 := boxed hE6
      clear hb6 hE6 HB5 HE5
      go_wp2_with fail
      refine (hR _).mono ?_
      rintro e w7 ⟨rfl, hb7⟩
      have HB7 := boxed (below_step HB6.out (Nat.le_refl _) hb7)
      have hE7 := (hb7.block w4.heap.size (heap_lt HE6.out)).trans HE6.out
      obtain ⟨⟨y0, y1, y2⟩, -⟩ := cells3 hE7
      clear c0 c1 c2 c3 c4 c5 c6 x0 x1 x2 hb7 hE7
      go_wp2_with fail
      go_ret
      exact ⟨rfl, (KF.out _ HB7.out).2⟩
  · have hv : chkV a0 s1 = 41 := by unfold chkV; rw [if_neg hw]
    have hv0 : chkV a0 s1 ≠ 0 := by rw [hv]; decide
    have hbad := fun W pb => break_bad (w := W) (pb := pb) hv0
    have hw2 : a0 < 1 ∨ 1073741824 < a0 := by
      simp [okW] at hw; omega
    rw [hv] at hC hbad
    clear hv hv0
    by_cases q1 : a0 < 1
    · have d1 : decide (a0 < 1) = true := decide_eq_true q1
      unfold Stg.val at *
      go_enter Try.func4, Try.ntmps4
      go_wp2_with fail
      refine (awake9_any _).mono ?_
      rintro e w1 ⟨rfl, hb1⟩
      have HB1 := boxed hb1
      clear hb1
      go_wp2_with fail
      refine (words_any _).mono ?_
      rintro e w2 ⟨b, rfl, hb, he, hb2⟩
      have HB2 := boxed (below_step HB1.out (Nat.le_refl _) hb2)
      have hP := para9_some (fun _ => True) (some ⟨b, 0, none⟩) 7 7 wI w2 (its_wI trivial he) 9 (by omega) rgt_wI (by rw [nbk_wI]; decide)
      clear hb2 HB1 he hb
      go_wp2_with fail
      refine hP.mono ?_
      rintro e w3 ⟨pb, rfl, hpa, hb3⟩
      have HB3 := boxed (below_step HB2.out (Nat.le_refl _) hb3)
      obtain ⟨⟨c0, c1, c2, c3, c4, c5, c6⟩, -⟩ := KF.out _ HB3.out
      have HP := boxed hpa
      clear hpa hb3 HB2 hP
      have hK := hbad w3 pb
      unfold Stg.val at hK
      go_wp2_with fail
      refine hK.mono ?_
      rintro e w4 ⟨rfl, hb4⟩
      have HB4 := boxed (below_step HB3.out (Nat.le_refl _) hb4)
      clear hb4 HB3 hK HP c0 c1 c2 c3 c4 c5 c6
      obtain ⟨W5, hW5⟩ : ∃ W5, W5 = w4.alloc (.cells #[.slice none 0 0, .int .i64 0, .bool false] 31) := ⟨_, rfl⟩
      have HB5 : Box (Below (w.alloc (.cells #[.int .i64 s1.t, .int .i64 s1.l, .int .i64 s1.a, .int .i64 s1.d, .int .i64 s1.z, .int .i64 s1.o, .int .i64 s1.i] 24)).heap.size (w.alloc (.cells #[.int .i64 s1.t, .int .i64 s1.l, .int .i64 s1.a, .int .i64 s1.d, .int .i64 s1.z, .int .i64 s1.o, .int .i64 s1.i] 24)) W5) := boxed (by rw [hW5]; exact HB4.out.alloc HB4.out.size _)
      have hE5 : W5.heap[w4.heap.size]? = some (.cells #[.slice none 0 0, .int .i64 0, .bool false] 31 (0, 0)) := by rw [hW5]; exact heap_alloc_new _ _
      obtain ⟨⟨c0, c1, c2, c3, c4, c5, c6⟩, -⟩ := KF.out _ HB5.out
      have HE5 := boxed hE5
      clear HB4 hE5
      subst hW5
      go_wp2_with fail
      refine (hC _).mono ?_
      rintro e w6 ⟨rfl, hb6⟩
      have HB6 := boxed (below_step HB5.out (Nat.le_refl _) hb6)
      have hE6 := (hb6.block w4.heap.size (by simp)).trans HE5.out
      obtain ⟨⟨x0, x1, x2⟩, -⟩ := cells3 hE6
      clear c0 c1 c2 c3 c4 c5 c6
      obtain ⟨⟨c0, c1, c2, c3, c4, c5, c6⟩, -⟩ := KF.out _ HB6.out
      have HE6 := boxed hE6
      clear hb6 hE6 HB5 HE5
      go_wp2_with fail
      go_ret
      exact ⟨rfl, (KF.out _ HB6.out).2⟩
    · have d1 : decide (a0 < 1) = false := decide_eq_false q1
      have d2 : decide (1073741824 < a0) = true := decide_eq_true (by omega)
      unfold Stg.val at *
      go_enter Try.func4, Try.ntmps4
      go_wp2_with fail
      refine (awake9_any _).mono ?_
      rintro e w1 ⟨rfl, hb1⟩
      have HB1 := boxed hb1
      clear hb1
      go_wp2_with fail
      refine (words_any _).mono ?_
      rintro e w2 ⟨b, rfl, hb, he, hb2⟩
      have HB2 := boxed (below_step HB1.out (Nat.le_refl _) hb2)
      have hP := para9_some (fun _ => True) (some ⟨b, 0, none⟩) 7 7 wI w2 (its_wI trivial he) 9 (by omega) rgt_wI (by rw [nbk_wI]; decide)
      clear hb2 HB1 he hb
      go_wp2_with fail
      refine hP.mono ?_
      rintro e w3 ⟨pb, rfl, hpa, hb3⟩
      have HB3 := boxed (below_step HB2.out (Nat.le_refl _) hb3)
      obtain ⟨⟨c0, c1, c2, c3, c4, c5, c6⟩, -⟩ := KF.out _ HB3.out
      have HP := boxed hpa
      clear hpa hb3 HB2 hP
      have hK := hbad w3 pb
      unfold Stg.val at hK
      go_wp2_with fail
      refine hK.mono ?_
      rintro e w4 ⟨rfl, hb4⟩
      have HB4 := boxed (below_step HB3.out (Nat.le_refl _) hb4)
      clear hb4 HB3 hK HP c0 c1 c2 c3 c4 c5 c6
      obtain ⟨W5, hW5⟩ : ∃ W5, W5 = w4.alloc (.cells #[.slice none 0 0, .int .i64 0, .bool false] 31) := ⟨_, rfl⟩
      have HB5 : Box (Below (w.alloc (.cells #[.int .i64 s1.t, .int .i64 s1.l, .int .i64 s1.a, .int .i64 s1.d, .int .i64 s1.z, .int .i64 s1.o, .int .i64 s1.i] 24)).heap.size (w.alloc (.cells #[.int .i64 s1.t, .int .i64 s1.l, .int .i64 s1.a, .int .i64 s1.d, .int .i64 s1.z, .int .i64 s1.o, .int .i64 s1.i] 24)) W5) := boxed (by rw [hW5]; exact HB4.out.alloc HB4.out.size _)
      have hE5 : W5.heap[w4.heap.size]? = some (.cells #[.slice none 0 0, .int .i64 0, .bool false] 31 (0, 0)) := by rw [hW5]; exact heap_alloc_new _ _
      obtain ⟨⟨c0, c1, c2, c3, c4, c5, c6⟩, -⟩ := KF.out _ HB5.out
      have HE5 := boxed hE5
      clear HB4 hE5
      subst hW5
      go_wp2_with fail
      refine (hC _).mono ?_
      rintro e w6 ⟨rfl, hb6⟩
      have HB6 := boxed (below_step HB5.out (Nat.le_refl _) hb6)
      have hE6 := (hb6.block w4.heap.size (by simp)).trans HE5.out
      obtain ⟨⟨x0, x1, x2⟩, -⟩ := cells3 hE6
      clear c0 c1 c2 c3 c4 c5 c6
      obtain ⟨⟨c0, c1, c2, c3, c4, c5, c6⟩, -⟩ := KF.out _ HB6.out
      have HE6 := boxed hE6
      clear hb6 hE6 HB5 HE5
      go_wp2_with fail
      go_ret
      exact ⟨rfl, (KF.out _ HB6.out).2⟩

set_option maxRecDepth 100000 in
theorem lifted (os : Os) (started : os.Started) (H : Type) (enc : TypeId × Value → H) :
    ReturnsInHanded {} Try.checked os 4 .any (Rows.breaksRefusesSpec.pre6 enc Try.prog Try.f4 Rows.breaksRefusesRow.domain false) (Rows.breaksRefusesSpec.post enc Try.prog Try.f4 false true false false) := by
  refine returnsInHanded_of_change_sized (C := Try.checked) own started (by kernel_rfl) Try.func4
    (ChangeSpec.witness6 (enc := enc) (C := Try.checked) false ⟨#[], #[.int .i64 0, .agg #[.int .i64 0, .int .i64 0, .int .i64 0, .int .i64 0, .int .i64 0, .int .i64 0, .int .i64 0]], []⟩ 8 (by kernel_rfl) (by kernel_rfl) (by kernel_rfl) (by kernel_rfl)) ?_
  intro W base args ds gs before hval0 hW hcnd hsz0 _
  have hval : ∀ (j : Nat) t v, Try.f4.params[j]? = some t → args[j]? = some v → Value.okWide Try.prog W .any base t v := hval0
  have hsz : (DataW.weightsEach Try.prog (Try.f4.params.toList ++ Rows.breaksRefusesSpec.plain.varTypes Try.prog) (ds ++ gs)).all (· ≤ reachBytes) = true := hsz0
  have hW' := hW
  obtain ⟨p, q, hA0, hV, rfl, hfz, hnd⟩ := hW
  have hA : DataW.TrodAll enc Try.prog W 0 (fun _ => true) true Try.f4.params.toList args.toList ds p := hA0
  rw [Try.params4] at hA hval hsz
  obtain ⟨v0, vs0, d0, ds0, p0, q0, hargs, rfl, rfl, h0, r0⟩ := trodAll_cons hA
  obtain ⟨v1, vs1, d1, ds1, p1, q1, rfl, rfl, rfl, h1, r1⟩ := trodAll_cons r0
  obtain ⟨rfl, rfl, rfl⟩ := trodAll_nil r1
  obtain rfl : args = #[v0, v1] := by cases args; simp_all
  obtain ⟨rfl, rfl⟩ := trodVars_none hV
  obtain ⟨a0, rfl, rfl, rfl, w0⟩ := open_int Try.underlying3 (hval 0 3 v0 rfl rfl) h0
  have k1 := h1
  have lt1 : ∀ x ∈ p1, x.block < W.heap.size := by obtain ⟨m, hm⟩ := k1; exact DataW.trod_lt m _ _ _ hm
  obtain ⟨s1, rfl, hs1⟩ : ∃ x : Stg, v1 = x.val ∧ I64 x.t ∧ I64 x.l ∧ I64 x.a ∧ I64 x.d ∧ I64 x.z ∧ I64 x.o ∧ I64 x.i := by
    obtain ⟨fuel, hf⟩ := k1
    exact sett_value hf
  clear hA0 hval0
  refine (walk W a0 w0 s1 hs1).mono fun e W' ⟨he, hg⟩ => ?_
  subst he
  exact ⟨_, rfl, _, _, _, [], _, [], hW', trodAll_mk1 (shut_bool Try.underlying4 _), (trodAll_cons_mk (shut_int Try.underlying3 w0) (trodAll_cons_mk (Below.trod laidOut (by kernel_rfl) (of_decide_eq_true (by kernel_rfl)) k1 hg lt1) trodAll_mk0)), rfl, hg.frame _, fun h => by cases h⟩

theorem proved : Rows.BreaksRefusesSaid :=
  OpenClaim.holds_of_wide 4 Try.f4 rfl rfl rfl rfl rfl rfl rfl ⟨rfl, rfl, rfl, rfl, rfl⟩ rfl rfl rfl rfl rfl (by kernel_rfl) Try.func4 (by kernel_rfl)
    (of_decide_eq_true (by kernel_rfl)) (by unfold Func.isWrapper; first | (rw [if_pos (by decide +kernel)]; kernel_rfl) | (rw [if_neg (by decide +kernel)]; exact ⟨rfl, rfl⟩))
    (fun os started H enc _ => lifted os started H enc)
#print axioms proved
end Go.Proofs.Ytkmeeblkckfepaa.breaksRefuses
