/-
  For any items, any width with settings and any number the statement BreaksTolerance of the program returns true: with more tolerance the lines don't cost more, and the emergency's rule isn't taken where it wasn't. No condition besides the statement's own.
-/
import Derived.Test.YtkmeeblkckfepabRows
import Derived.WalkKit
import Derived.ProofKit
import Derived.OpenShut
import Derived.SizedLaws
import Derived.ShutString
import Derived.ChangeOld
import Derived.Below
import Derived.Test.YtkmeeblkckfepabPk18
import Derived.Test.YtkmeeblkckfepabPk17
import Derived.Test.YtkmeeblkckfepabPk10
import Derived.Test.YtkmeeblkckfepabPk12
namespace Go.Proofs.Ytkmeeblkckfepab.breaksTolerance
open Go.ChangeShapes Go.WideShapes Go.ChangeAt Go.RowKit
open Go.ChangeMaps (open_string shut_string)
set_option linter.unusedVariables false
set_option linter.unusedSimpArgs false

theorem own : ownKnob Try.prog.godebug = none := by kernel_rfl
theorem laidOut : laidOutB Try.prog = true := by kernel_rfl

set_option maxRecDepth 100000 in
set_option maxHeartbeats 8000000 in
theorem walk (w : World) (ao0 : Option Addr) (n0 cap0 : Nat) (I0 : Nat → Itm) (hn0 : n0 ≤ maxLen) (hI0 : ItsAt (fun _ => True) w ao0 n0 I0) (wd1 : Int) (s1 : Stg) (hs1 : I64 wd1 ∧ I64 s1.t ∧ I64 s1.l ∧ I64 s1.a ∧ I64 s1.d ∧ I64 s1.z ∧ I64 s1.o ∧ I64 s1.i) (a2 : Int) (w2 : (Lit.int .i64 a2).wf = true) :
    Calls Try.prog 3 #[.slice ao0 n0 cap0, setV wd1 s1, .int .i64 a2] w fun e w' => e = .returned (.bool true) ∧ Below w.heap.size w w' := by
  have HA := boxed (And.intro hs1 w2)
  clear hs1 w2
  have HI := boxed hI0
  have hn1 := boxed hn0
  unfold maxLen at hn0
  have KF : Box (∀ W, Below (w.alloc (.cells #[.int .i64 wd1, .int .i64 s1.t, .int .i64 s1.l, .int .i64 s1.a, .int .i64 s1.d, .int .i64 s1.z, .int .i64 s1.o, .int .i64 s1.i] 26)).heap.size (w.alloc (.cells #[.int .i64 wd1, .int .i64 s1.t, .int .i64 s1.l, .int .i64 s1.a, .int .i64 s1.d, .int .i64 s1.z, .int .i64 s1.o, .int .i64 s1.i] 26)) W → (W.cell? ⟨w.heap.size, 0, none⟩ = some (.int .i64 wd1) ∧ W.cell? ⟨w.heap.size, 1, none⟩ = some (.int .i64 s1.t) ∧ W.cell? ⟨w.heap.size, 2, none⟩ = some (.int .i64 s1.l) ∧ W.cell? ⟨w.heap.size, 3, none⟩ = some (.int .i64 s1.a) ∧ W.cell? ⟨w.heap.size, 4, none⟩ = some (.int .i64 s1.d) ∧ W.cell? ⟨w.heap.size, 5, none⟩ = some (.int .i64 s1.z) ∧ W.cell? ⟨w.heap.size, 6, none⟩ = some (.int .i64 s1.o) ∧ W.cell? ⟨w.heap.size, 7, none⟩ = some (.int .i64 s1.i)) ∧ Below w.heap.size w W) := boxed (fun W hb => ⟨⟨kept_first hb 0, kept_first hb 1, kept_first hb 2, kept_first hb 3, kept_first hb 4, kept_first hb 5, kept_first hb 6, kept_first hb 7⟩, kept_below (Below.refl _ w) (Nat.le_refl _) hb⟩)
  have hI1 : Box (∀ W, Below (w.alloc (.cells #[.int .i64 wd1, .int .i64 s1.t, .int .i64 s1.l, .int .i64 s1.a, .int .i64 s1.d, .int .i64 s1.z, .int .i64 s1.o, .int .i64 s1.i] 26)).heap.size (w.alloc (.cells #[.int .i64 wd1, .int .i64 s1.t, .int .i64 s1.l, .int .i64 s1.a, .int .i64 s1.d, .int .i64 s1.z, .int .i64 s1.o, .int .i64 s1.i] 26)) W → ItsAt (fun _ => True) W ao0 n0 I0) := boxed (fun W hb => HI.out.below (KF.out W hb).2)
  have hR := fun W => right9_any wd1 s1 W
  clear hI0
  by_cases hp : 400 < n0 ∨ rgt I0 n0 = false ∨ (120 : Int) < nbk I0 n0
  · have hP := boxed (fun W hb => para9_none (fun _ => True) ao0 n0 cap0 I0 W (hI1.out W hb) hn1.out 120 hp)
    unfold Stg.val setV at *
    clear hp
    go_enter Try.func3, Try.ntmps3
    go_wp2_with fail
    refine (awake9_any _).mono ?_
    rintro e w1 ⟨rfl, hb1⟩
    have HB1 := boxed hb1
    clear hb1
    go_wp2_with fail
    refine (hP.out _ HB1.out).mono ?_
    rintro e w2 ⟨rfl, hb2⟩
    have HB2 := boxed (below_step HB1.out (Nat.le_refl _) hb2)
    obtain ⟨⟨c0, c1, c2, c3, c4, c5, c6, c7⟩, -⟩ := KF.out _ HB2.out
    clear hb2
    obtain ⟨W3, hW3⟩ : ∃ W3, W3 = w2.alloc (.cells #[.int .i64 s1.t, .int .i64 s1.l, .int .i64 s1.a, .int .i64 s1.d, .int .i64 s1.z, .int .i64 s1.o, .int .i64 s1.i] 24) := ⟨_, rfl⟩
    have HB3 : Box (Below (w.alloc (.cells #[.int .i64 wd1, .int .i64 s1.t, .int .i64 s1.l, .int .i64 s1.a, .int .i64 s1.d, .int .i64 s1.z, .int .i64 s1.o, .int .i64 s1.i] 26)).heap.size (w.alloc (.cells #[.int .i64 wd1, .int .i64 s1.t, .int .i64 s1.l, .int .i64 s1.a, .int .i64 s1.d, .int .i64 s1.z, .int .i64 s1.o, .int .i64 s1.i] 26)) W3) := boxed (by rw [hW3]; exact HB2.out.alloc HB2.out.size _)
    have hE3 : W3.heap[w2.heap.size]? = some (.cells #[.int .i64 s1.t, .int .i64 s1.l, .int .i64 s1.a, .int .i64 s1.d, .int .i64 s1.z, .int .i64 s1.o, .int .i64 s1.i] 24 (0, 0)) := by rw [hW3]; exact heap_alloc_new _ _
    have HE3 := boxed hE3
    have HX3 : Box (Below w2.heap.size w2 W3) := boxed (by rw [hW3]; exact (Below.refl _ w2).alloc (Nat.le_refl _) _)
    have hz3 : W3.heap.size = w2.heap.size + 1 := by rw [hW3]; simp
    clear hE3
    subst hW3
    go_wp2_with fail
    go_ret
    exact ⟨rfl, (KF.out _ HB3.out).2⟩
  have hp1 : n0 ≤ 400 := by omega
  have hp2 : rgt I0 n0 = true := by cases h : rgt I0 n0 with | true => rfl | false => exact absurd (.inr (.inl h)) hp
  have hp3 : (nbk I0 n0 : Int) ≤ 120 := by omega
  have hP := boxed (fun W hb => para9_some (fun _ => True) ao0 n0 cap0 I0 W (hI1.out W hb) 120 hp1 hp2 hp3)
  clear hp
  by_cases hr : (okW wd1 && okS s1) = false
  · rw [hr] at hR
    unfold Stg.val setV at *
    go_enter Try.func3, Try.ntmps3
    go_wp2_with fail
    refine (awake9_any _).mono ?_
    rintro e w1 ⟨rfl, hb1⟩
    have HB1 := boxed hb1
    clear hb1
    go_wp2_with fail
    refine (hP.out _ HB1.out).mono ?_
    rintro e w2 ⟨pb, rfl, hpa, hb2⟩
    have HB2 := boxed (below_step HB1.out (Nat.le_refl _) hb2)
    have HP2 := boxed (hpa.keep (S' := fun b => b < w2.heap.size) (fun b i u hs hc => ⟨by have := World.block_lt_of_cell? w2 _ hc; simpa using this, hc⟩))
    obtain ⟨⟨c0, c1, c2, c3, c4, c5, c6, c7⟩, -⟩ := KF.out _ HB2.out
    clear hb2 hpa hP HB1
    obtain ⟨W3, hW3⟩ : ∃ W3, W3 = w2.alloc (.cells #[.int .i64 s1.t, .int .i64 s1.l, .int .i64 s1.a, .int .i64 s1.d, .int .i64 s1.z, .int .i64 s1.o, .int .i64 s1.i] 24) := ⟨_, rfl⟩
    have HB3 : Box (Below (w.alloc (.cells #[.int .i64 wd1, .int .i64 s1.t, .int .i64 s1.l, .int .i64 s1.a, .int .i64 s1.d, .int .i64 s1.z, .int .i64 s1.o, .int .i64 s1.i] 26)).heap.size (w.alloc (.cells #[.int .i64 wd1, .int .i64 s1.t, .int .i64 s1.l, .int .i64 s1.a, .int .i64 s1.d, .int .i64 s1.z, .int .i64 s1.o, .int .i64 s1.i] 26)) W3) := boxed (by rw [hW3]; exact HB2.out.alloc HB2.out.size _)
    have hE3 : W3.heap[w2.heap.size]? = some (.cells #[.int .i64 s1.t, .int .i64 s1.l, .int .i64 s1.a, .int .i64 s1.d, .int .i64 s1.z, .int .i64 s1.o, .int .i64 s1.i] 24 (0, 0)) := by rw [hW3]; exact heap_alloc_new _ _
    have HE3 := boxed hE3
    have HX3 : Box (Below w2.heap.size w2 W3) := boxed (by rw [hW3]; exact (Below.refl _ w2).alloc (Nat.le_refl _) _)
    have hz3 : W3.heap.size = w2.heap.size + 1 := by rw [hW3]; simp
    obtain ⟨⟨x0, x1, x2, x3, x4, x5, x6⟩, -⟩ := cells7 hE3
    obtain ⟨⟨k0, -⟩, -⟩ := KF.out _ HB3.out
    clear hE3
    subst hW3
    go_wp2_with fail
    refine (hR _).mono ?_
    rintro e w3 ⟨rfl, hb3⟩
    have HB4 := boxed (below_step HB3.out (Nat.le_refl _) hb3)
    have hE4 := (hb3.block w2.heap.size (by rw [hz3]; omega)).trans HE3.out
    have HE4 := boxed hE4
    have HX4 := boxed (below_step HX3.out (Nat.le_refl _) hb3)
    have hz4 := heap_lt hE4
    clear c0 c1 c2 c3 c4 c5 c6 c7 x0 x1 x2 x3 x4 x5 x6 k0 hb3 HE3 HX3 hR
    obtain ⟨⟨x0, x1, x2, x3, x4, x5, x6⟩, y0, -⟩ := cells7 hE4
    obtain ⟨⟨k0, -⟩, -⟩ := KF.out _ HB4.out
    clear hE4
    go_wp2_with fail
    go_ret
    exact ⟨rfl, (KF.out _ HB4.out).2⟩
  have hr1 : (okW wd1 && okS s1) = true := by simpa using hr
  have hw : 1 ≤ wd1 ∧ wd1 ≤ 1073741824 := by simp [okW] at hr1; omega
  have hs : okS s1 = true := by simp at hr1; exact hr1.2
  rw [hr1] at hR
  clear hr hr1
  by_cases hm1 : a2 < s1.t
  · have d1 : decide (a2 < s1.t) = true := decide_eq_true hm1
    unfold Stg.val setV at *
    go_enter Try.func3, Try.ntmps3
    go_wp2_with fail
    refine (awake9_any _).mono ?_
    rintro e w1 ⟨rfl, hb1⟩
    have HB1 := boxed hb1
    clear hb1
    go_wp2_with fail
    refine (hP.out _ HB1.out).mono ?_
    rintro e w2 ⟨pb, rfl, hpa, hb2⟩
    have HB2 := boxed (below_step HB1.out (Nat.le_refl _) hb2)
    have HP2 := boxed (hpa.keep (S' := fun b => b < w2.heap.size) (fun b i u hs hc => ⟨by have := World.block_lt_of_cell? w2 _ hc; simpa using this, hc⟩))
    obtain ⟨⟨c0, c1, c2, c3, c4, c5, c6, c7⟩, -⟩ := KF.out _ HB2.out
    clear hb2 hpa hP HB1
    obtain ⟨W3, hW3⟩ : ∃ W3, W3 = w2.alloc (.cells #[.int .i64 s1.t, .int .i64 s1.l, .int .i64 s1.a, .int .i64 s1.d, .int .i64 s1.z, .int .i64 s1.o, .int .i64 s1.i] 24) := ⟨_, rfl⟩
    have HB3 : Box (Below (w.alloc (.cells #[.int .i64 wd1, .int .i64 s1.t, .int .i64 s1.l, .int .i64 s1.a, .int .i64 s1.d, .int .i64 s1.z, .int .i64 s1.o, .int .i64 s1.i] 26)).heap.size (w.alloc (.cells #[.int .i64 wd1, .int .i64 s1.t, .int .i64 s1.l, .int .i64 s1.a, .int .i64 s1.d, .int .i64 s1.z, .int .i64 s1.o, .int .i64 s1.i] 26)) W3) := boxed (by rw [hW3]; exact HB2.out.alloc HB2.out.size _)
    have hE3 : W3.heap[w2.heap.size]? = some (.cells #[.int .i64 s1.t, .int .i64 s1.l, .int .i64 s1.a, .int .i64 s1.d, .int .i64 s1.z, .int .i64 s1.o, .int .i64 s1.i] 24 (0, 0)) := by rw [hW3]; exact heap_alloc_new _ _
    have HE3 := boxed hE3
    have HX3 : Box (Below w2.heap.size w2 W3) := boxed (by rw [hW3]; exact (Below.refl _ w2).alloc (Nat.le_refl _) _)
    have hz3 : W3.heap.size = w2.heap.size + 1 := by rw [hW3]; simp
    obtain ⟨⟨x0, x1, x2, x3, x4, x5, x6⟩, -⟩ := cells7 hE3
    obtain ⟨⟨k0, -⟩, -⟩ := KF.out _ HB3.out
    clear hE3
    subst hW3
    go_wp2_with fail
    refine (hR _).mono ?_
    rintro e w3 ⟨rfl, hb3⟩
    have HB4 := boxed (below_step HB3.out (Nat.le_refl _) hb3)
    have hE4 := (hb3.block w2.heap.size (by rw [hz3]; omega)).trans HE3.out
    have HE4 := boxed hE4
    have HX4 := boxed (below_step HX3.out (Nat.le_refl _) hb3)
    have hz4 := heap_lt hE4
    clear c0 c1 c2 c3 c4 c5 c6 c7 x0 x1 x2 x3 x4 x5 x6 k0 hb3 HE3 HX3 hR
    obtain ⟨⟨x0, x1, x2, x3, x4, x5, x6⟩, y0, -⟩ := cells7 hE4
    obtain ⟨⟨k0, -⟩, -⟩ := KF.out _ HB4.out
    clear hE4
    go_wp2_with fail
    go_ret
    exact ⟨rfl, (KF.out _ HB4.out).2⟩
  have d1 : decide (a2 < s1.t) = false := decide_eq_false hm1
  by_cases hm2 : 10000 < a2
  · have d2 : decide (10000 < a2) = true := decide_eq_true hm2
    unfold Stg.val setV at *
    go_enter Try.func3, Try.ntmps3
    go_wp2_with fail
    refine (awake9_any _).mono ?_
    rintro e w1 ⟨rfl, hb1⟩
    have HB1 := boxed hb1
    clear hb1
    go_wp2_with fail
    refine (hP.out _ HB1.out).mono ?_
    rintro e w2 ⟨pb, rfl, hpa, hb2⟩
    have HB2 := boxed (below_step HB1.out (Nat.le_refl _) hb2)
    have HP2 := boxed (hpa.keep (S' := fun b => b < w2.heap.size) (fun b i u hs hc => ⟨by have := World.block_lt_of_cell? w2 _ hc; simpa using this, hc⟩))
    obtain ⟨⟨c0, c1, c2, c3, c4, c5, c6, c7⟩, -⟩ := KF.out _ HB2.out
    clear hb2 hpa hP HB1
    obtain ⟨W3, hW3⟩ : ∃ W3, W3 = w2.alloc (.cells #[.int .i64 s1.t, .int .i64 s1.l, .int .i64 s1.a, .int .i64 s1.d, .int .i64 s1.z, .int .i64 s1.o, .int .i64 s1.i] 24) := ⟨_, rfl⟩
    have HB3 : Box (Below (w.alloc (.cells #[.int .i64 wd1, .int .i64 s1.t, .int .i64 s1.l, .int .i64 s1.a, .int .i64 s1.d, .int .i64 s1.z, .int .i64 s1.o, .int .i64 s1.i] 26)).heap.size (w.alloc (.cells #[.int .i64 wd1, .int .i64 s1.t, .int .i64 s1.l, .int .i64 s1.a, .int .i64 s1.d, .int .i64 s1.z, .int .i64 s1.o, .int .i64 s1.i] 26)) W3) := boxed (by rw [hW3]; exact HB2.out.alloc HB2.out.size _)
    have hE3 : W3.heap[w2.heap.size]? = some (.cells #[.int .i64 s1.t, .int .i64 s1.l, .int .i64 s1.a, .int .i64 s1.d, .int .i64 s1.z, .int .i64 s1.o, .int .i64 s1.i] 24 (0, 0)) := by rw [hW3]; exact heap_alloc_new _ _
    have HE3 := boxed hE3
    have HX3 : Box (Below w2.heap.size w2 W3) := boxed (by rw [hW3]; exact (Below.refl _ w2).alloc (Nat.le_refl _) _)
    have hz3 : W3.heap.size = w2.heap.size + 1 := by rw [hW3]; simp
    obtain ⟨⟨x0, x1, x2, x3, x4, x5, x6⟩, -⟩ := cells7 hE3
    obtain ⟨⟨k0, -⟩, -⟩ := KF.out _ HB3.out
    clear hE3
    subst hW3
    go_wp2_with fail
    refine (hR _).mono ?_
    rintro e w3 ⟨rfl, hb3⟩
    have HB4 := boxed (below_step HB3.out (Nat.le_refl _) hb3)
    have hE4 := (hb3.block w2.heap.size (by rw [hz3]; omega)).trans HE3.out
    have HE4 := boxed hE4
    have HX4 := boxed (below_step HX3.out (Nat.le_refl _) hb3)
    have hz4 := heap_lt hE4
    clear c0 c1 c2 c3 c4 c5 c6 c7 x0 x1 x2 x3 x4 x5 x6 k0 hb3 HE3 HX3 hR
    obtain ⟨⟨x0, x1, x2, x3, x4, x5, x6⟩, y0, -⟩ := cells7 hE4
    obtain ⟨⟨k0, -⟩, -⟩ := KF.out _ HB4.out
    clear hE4
    go_wp2_with fail
    go_ret
    exact ⟨rfl, (KF.out _ HB4.out).2⟩
  have d2 : decide (10000 < a2) = false := decide_eq_false hm2
  obtain ⟨h0, h1, hfo, hok⟩ := (rgt_iff I0 n0).1 hp2
  have hs2 : okS { s1 with t := a2 } = true := by rw [okS_iff] at hs ⊢; simp only; omega
  have HBR := boxed (fun W pb (h : ParaAt (fun b => b < W.heap.size) W pb n0 I0) => break_any (s := s1) h h1 hok h0 hfo hw hs)
  have HBS := boxed (fun S W pb (h : ParaAt S W pb n0 I0) => break_any (s := { s1 with t := a2 }) h h1 hok h0 hfo hw hs2)
  clear hw hs hs2 hfo hok
  unfold Stg.val setV at *
  go_enter Try.func3, Try.ntmps3
  go_wp2_with fail
  refine (awake9_any _).mono ?_
  rintro e w1 ⟨rfl, hb1⟩
  have HB1 := boxed hb1
  clear hb1
  go_wp2_with fail
  refine (hP.out _ HB1.out).mono ?_
  rintro e w2 ⟨pb, rfl, hpa, hb2⟩
  have HB2 := boxed (below_step HB1.out (Nat.le_refl _) hb2)
  have HP2 := boxed (hpa.keep (S' := fun b => b < w2.heap.size) (fun b i u hs hc => ⟨by have := World.block_lt_of_cell? w2 _ hc; simpa using this, hc⟩))
  obtain ⟨⟨c0, c1, c2, c3, c4, c5, c6, c7⟩, -⟩ := KF.out _ HB2.out
  clear hb2 hpa hP HB1
  obtain ⟨W3, hW3⟩ : ∃ W3, W3 = w2.alloc (.cells #[.int .i64 s1.t, .int .i64 s1.l, .int .i64 s1.a, .int .i64 s1.d, .int .i64 s1.z, .int .i64 s1.o, .int .i64 s1.i] 24) := ⟨_, rfl⟩
  have HB3 : Box (Below (w.alloc (.cells #[.int .i64 wd1, .int .i64 s1.t, .int .i64 s1.l, .int .i64 s1.a, .int .i64 s1.d, .int .i64 s1.z, .int .i64 s1.o, .int .i64 s1.i] 26)).heap.size (w.alloc (.cells #[.int .i64 wd1, .int .i64 s1.t, .int .i64 s1.l, .int .i64 s1.a, .int .i64 s1.d, .int .i64 s1.z, .int .i64 s1.o, .int .i64 s1.i] 26)) W3) := boxed (by rw [hW3]; exact HB2.out.alloc HB2.out.size _)
  have hE3 : W3.heap[w2.heap.size]? = some (.cells #[.int .i64 s1.t, .int .i64 s1.l, .int .i64 s1.a, .int .i64 s1.d, .int .i64 s1.z, .int .i64 s1.o, .int .i64 s1.i] 24 (0, 0)) := by rw [hW3]; exact heap_alloc_new _ _
  have HE3 := boxed hE3
  have HX3 : Box (Below w2.heap.size w2 W3) := boxed (by rw [hW3]; exact (Below.refl _ w2).alloc (Nat.le_refl _) _)
  have hz3 : W3.heap.size = w2.heap.size + 1 := by rw [hW3]; simp
  obtain ⟨⟨x0, x1, x2, x3, x4, x5, x6⟩, -⟩ := cells7 hE3
  obtain ⟨⟨k0, -⟩, -⟩ := KF.out _ HB3.out
  clear hE3
  subst hW3
  go_wp2_with fail
  refine (hR _).mono ?_
  rintro e w3 ⟨rfl, hb3⟩
  have HB4 := boxed (below_step HB3.out (Nat.le_refl _) hb3)
  have hE4 := (hb3.block w2.heap.size (by rw [hz3]; omega)).trans HE3.out
  have HE4 := boxed hE4
  have HX4 := boxed (below_step HX3.out (Nat.le_refl _) hb3)
  have hz4 := heap_lt hE4
  clear c0 c1 c2 c3 c4 c5 c6 c7 x0 x1 x2 x3 x4 x5 x6 k0 hb3 HE3 HX3 hR
  obtain ⟨⟨x0, x1, x2, x3, x4, x5, x6⟩, y0, -⟩ := cells7 hE4
  obtain ⟨⟨k0, -⟩, -⟩ := KF.out _ HB4.out
  clear hE4
  have hK := HBR.out _ _ (HP2.out.keep (fun b i u hs hc => ⟨by have := HX4.out.size; omega, hold HX4.out hc⟩))
  clear HBR
  go_wp2_with fail
  refine hK.mono ?_
  rintro e w4 ⟨v, c, l, em, rfl, hB, hne, ho, hb4⟩
  obtain ⟨a1, c1x, rfl⟩ := own_shape ho
  have hl2 : l.length ≤ 400 := by have := brk_len hB; omega
  have HBK := boxed hB
  have HB5 := boxed (below_step HB4.out (Nat.le_refl _) hb4)
  have hE5 := (hb4.block w2.heap.size hz4).trans HE4.out
  have HX5 := boxed (below_step HX4.out (Nat.le_refl _) hb4)
  have hz5 := heap_lt hE5
  have hz5' : w2.heap.size ≠ w4.heap.size := by omega
  clear hb4 hK ho hne hB x0 x1 x2 x3 x4 x5 x6 k0 y0 HB4 HE4 HX4
  generalize l.length = ln at *
  obtain ⟨W6, hW6⟩ : ∃ W6, W6 = (w4.setCell ⟨w2.heap.size, 0, none⟩ (.int .i64 a2)).alloc (.cells #[.slice a1 ln c1x, .int .i64 c, .bool em] 33) := ⟨_, rfl⟩
  have hzz : (w4.setCell ⟨w2.heap.size, 0, none⟩ (.int .i64 a2)).heap.size = w4.heap.size := sets_size w2.heap.size [.int .i64 a2] 0 w4
  have hA6 : (w4.alloc (.cells #[.slice a1 ln c1x, .int .i64 c, .bool em] 33)).heap[w2.heap.size]? = some (.cells #[.int .i64 s1.t, .int .i64 s1.l, .int .i64 s1.a, .int .i64 s1.d, .int .i64 s1.z, .int .i64 s1.o, .int .i64 s1.i] 24 (0, 0)) := by
    rw [Below.heap_alloc _ _ _ hz5]; exact hE5
  have hE6 : W6.heap[w2.heap.size]? = some (.cells #[.int .i64 a2, .int .i64 s1.l, .int .i64 s1.a, .int .i64 s1.d, .int .i64 s1.z, .int .i64 s1.o, .int .i64 s1.i] 24 (0, 0)) := by
    rw [hW6, Below.heap_alloc _ _ _ (by rw [hzz]; exact hz5)]; exact arr_set _ hE5
  have hF6 : W6.heap[w4.heap.size]? = some (.cells #[.slice a1 ln c1x, .int .i64 c, .bool em] 33 (0, 0)) := by
    rw [hW6, ← hzz]; exact heap_alloc_new _ _
  have HB6 : Box (Below (w.alloc (.cells #[.int .i64 wd1, .int .i64 s1.t, .int .i64 s1.l, .int .i64 s1.a, .int .i64 s1.d, .int .i64 s1.z, .int .i64 s1.o, .int .i64 s1.i] 26)).heap.size (w.alloc (.cells #[.int .i64 wd1, .int .i64 s1.t, .int .i64 s1.l, .int .i64 s1.a, .int .i64 s1.d, .int .i64 s1.z, .int .i64 s1.o, .int .i64 s1.i] 26)) W6) := boxed (by rw [hW6]; exact (HB5.out.setCell (p := ⟨w2.heap.size, 0, none⟩) HB2.out.size _).alloc (by rw [hzz]; exact HB5.out.size) _)
  have HP6 : Box (ParaAt (fun b => b < w2.heap.size) W6 pb n0 I0) := boxed (by
    rw [hW6]
    refine HP2.out.keep (fun b i u hs hc => ⟨hs, ?_⟩)
    refine hold ((Below.refl _ (w4.setCell ⟨w2.heap.size, 0, none⟩ (.int .i64 a2))).alloc (Nat.le_refl _) _) ?_
    rw [World.cell?_setCell_far _ _ _ _ (by show w2.heap.size ≠ b; omega)]
    exact hold HX5.out hc)
  have hz6 := heap_lt hF6
  have HF6 := boxed hF6
  obtain ⟨⟨f0, f1, f2⟩, -⟩ := cells3 hF6
  obtain ⟨⟨x0, x1, x2, x3, x4, x5, x6⟩, -⟩ := cells7 hE6
  obtain ⟨⟨q0, q1, q2, q3, q4, q5, q6⟩, r0, -⟩ := cells7 hA6
  obtain ⟨⟨k0, -⟩, -⟩ := KF.out _ HB6.out
  have hK := HBS.out _ _ _ HP6.out
  clear hE6 hF6 hA6 HP6 HBS hE5 HX5 HP2 HB5 hzz
  subst hW6
  go_wp2_with fail
  refine hK.mono ?_
  rintro e w5 ⟨v, c', l', em', rfl, hB, hne, ho, hb5⟩
  obtain ⟨a1', c1x', rfl⟩ := own_shape ho
  have hl3 : l'.length ≤ 400 := by have := brk_len hB; omega
  have HM := brk_more HBK.out hB (by omega)
  have HB7 := boxed (below_step HB6.out (Nat.le_refl _) hb5)
  have hF7 := (hb5.block w4.heap.size hz6).trans HF6.out
  obtain ⟨⟨g0, g1, g2⟩, -⟩ := cells3 hF7
  have hz7 := heap_lt hF7
  have hz7' : w4.heap.size ≠ w5.heap.size := by omega
  have HB8 := boxed (fun o => HB7.out.alloc HB7.out.size o)
  have g1' : ∀ o, (w5.alloc o).cell? ⟨w4.heap.size, 1, none⟩ = some (.int .i64 c) := fun o => hold ((Below.refl _ w5).alloc (Nat.le_refl _) o) g1
  have g2' : ∀ o, (w5.alloc o).cell? ⟨w4.heap.size, 2, none⟩ = some (.bool em) := fun o => hold ((Below.refl _ w5).alloc (Nat.le_refl _) o) g2
  clear hb5 hK ho hne hB x0 x1 x2 x3 x4 x5 x6 k0 HB6 HF6 f0 f1 f2 q0 q1 q2 q3 q4 q5 q6 r0 HBK hF7 g0 g1 g2 hz6
  generalize l'.length = ln' at *
  rcases HM with rfl | ⟨rfl, hcc⟩
  · go_wp2_with fail
    go_ret
    exact ⟨rfl, (KF.out _ (HB8.out _)).2⟩
  · have d3 : decide (c' ≤ c) = true := decide_eq_true hcc
    cases em
    all_goals
      go_wp2_with fail
      go_ret
      exact ⟨rfl, (KF.out _ (HB8.out _)).2⟩

set_option maxRecDepth 100000 in
theorem lifted (os : Os) (started : os.Started) (H : Type) (enc : TypeId × Value → H) :
    ReturnsInHanded {} Try.checked os 3 .any (Rows.breaksToleranceSpec.pre6 enc Try.prog Try.f3 Rows.breaksToleranceRow.domain false) (Rows.breaksToleranceSpec.post enc Try.prog Try.f3 false true false false) := by
  refine returnsInHanded_of_change_sized (C := Try.checked) own started (by kernel_rfl) Try.func3
    (ChangeSpec.witness6 (enc := enc) (C := Try.checked) false ⟨#[], #[.slice none 0 0, .agg #[.int .i64 0, .int .i64 0, .int .i64 0, .int .i64 0, .int .i64 0, .int .i64 0, .int .i64 0, .int .i64 0], .int .i64 0], []⟩ 8 (by kernel_rfl) (by kernel_rfl) (by kernel_rfl) (by kernel_rfl)) ?_
  intro W base args ds gs before hval0 hW hcnd hsz0 _
  have hval : ∀ (j : Nat) t v, Try.f3.params[j]? = some t → args[j]? = some v → Value.okWide Try.prog W .any base t v := hval0
  have hsz : (DataW.weightsEach Try.prog (Try.f3.params.toList ++ Rows.breaksToleranceSpec.plain.varTypes Try.prog) (ds ++ gs)).all (· ≤ reachBytes) = true := hsz0
  have hW' := hW
  obtain ⟨p, q, hA0, hV, rfl, hfz, hnd⟩ := hW
  have hA : DataW.TrodAll enc Try.prog W 0 (fun _ => true) true Try.f3.params.toList args.toList ds p := hA0
  rw [Try.params3] at hA hval hsz
  obtain ⟨v0, vs0, d0, ds0, p0, q0, hargs, rfl, rfl, h0, r0⟩ := trodAll_cons hA
  obtain ⟨v1, vs1, d1, ds1, p1, q1, rfl, rfl, rfl, h1, r1⟩ := trodAll_cons r0
  obtain ⟨v2, vs2, d2, ds2, p2, q2, rfl, rfl, rfl, h2, r2⟩ := trodAll_cons r1
  obtain ⟨rfl, rfl, rfl⟩ := trodAll_nil r2
  obtain rfl : args = #[v0, v1, v2] := by cases args; simp_all
  obtain ⟨rfl, rfl⟩ := trodVars_none hV
  obtain ⟨ao0, n0, cap0, rfl⟩ := okWide_slice Try.underlying22 (hval 0 22 v0 rfl rfl)
  have k0 := h0
  have lt0 : ∀ x ∈ p0, x.block < W.heap.size := by obtain ⟨m, hm⟩ := k0; exact DataW.trod_lt m _ _ _ hm
  obtain ⟨hn0, I0, hI0⟩ : n0 ≤ maxLen ∧ ∃ I, ItsAt (fun _ => True) W ao0 n0 I := by
    obtain ⟨fuel, hf⟩ := k0
    exact open_items hf
  have k1 := h1
  have lt1 : ∀ x ∈ p1, x.block < W.heap.size := by obtain ⟨m, hm⟩ := k1; exact DataW.trod_lt m _ _ _ hm
  obtain ⟨wd1, s1, rfl, hs1⟩ : ∃ (z : Int) (x : Stg), v1 = setV z x ∧ I64 z ∧ I64 x.t ∧ I64 x.l ∧ I64 x.a ∧ I64 x.d ∧ I64 x.z ∧ I64 x.o ∧ I64 x.i := by
    obtain ⟨fuel, hf⟩ := k1
    exact setting_value hf
  obtain ⟨a2, rfl, rfl, rfl, w2⟩ := open_int Try.underlying3 (hval 2 3 v2 rfl rfl) h2
  clear hA0 hval0
  refine (walk W ao0 n0 cap0 I0 hn0 hI0 wd1 s1 hs1 a2 w2).mono fun e W' ⟨he, hg⟩ => ?_
  subst he
  exact ⟨_, rfl, _, _, _, [], _, [], hW', trodAll_mk1 (shut_bool Try.underlying4 _), (trodAll_cons_mk (Below.trod laidOut (by kernel_rfl) (of_decide_eq_true (by kernel_rfl)) k0 hg lt0) (trodAll_cons_mk (Below.trod laidOut (by kernel_rfl) (of_decide_eq_true (by kernel_rfl)) k1 hg lt1) (trodAll_cons_mk (shut_int Try.underlying3 w2) trodAll_mk0))), rfl, hg.frame _, fun h => by cases h⟩

theorem proved : Rows.BreaksToleranceSaid :=
  OpenClaim.holds_of_wide 3 Try.f3 rfl rfl rfl rfl rfl rfl rfl ⟨rfl, rfl, rfl, rfl, rfl⟩ rfl rfl rfl rfl rfl (by kernel_rfl) Try.func3 (by kernel_rfl)
    (of_decide_eq_true (by kernel_rfl)) (by unfold Func.isWrapper; first | (rw [if_pos (by decide +kernel)]; kernel_rfl) | (rw [if_neg (by decide +kernel)]; exact ⟨rfl, rfl⟩))
    (fun os started H enc _ => lifted os started H enc)
#print axioms proved
end Go.Proofs.Ytkmeeblkckfepab.breaksTolerance
