/-
  For any items, any width and any settings the statement BreaksLong of the program returns true: of a paragraph with many places the program's lines are those that follow from what the lines behind each place cost, and of a short one these are those of all ways. No condition besides the statement's own.
-/
import Derived.Test.YtkmeeblkckfepaaGreatRows
import Derived.WalkKit
import Derived.ProofKit
import Derived.OpenShut
import Derived.SizedLaws
import Derived.ShutString
import Derived.ChangeOld
import Derived.Below
import Derived.Test.YtkmeeblkckfepaaGreatPkDs
import Derived.Test.YtkmeeblkckfepaaGreatPk24
import Derived.Deep.RegionLaw
namespace Go.Proofs.YtkmeeblkckfepaaGreat.breaksLong
open Go.ChangeShapes Go.WideShapes Go.ChangeAt Go.RowKit
open Go.ChangeMaps (open_string shut_string)
set_option linter.unusedVariables false
set_option linter.unusedSimpArgs false

theorem own : ownKnob Tryz.prog.godebug = none := by kernel_rfl
theorem laidOut : laidOutB Tryz.prog = true := by kernel_rfl

set_option maxRecDepth 100000 in
set_option maxHeartbeats 16000000 in
theorem walk (w : World) (ao0 : Option Addr) (n0 cap0 : Nat) (I0 : Nat → Itm) (hn0 : n0 ≤ maxLen) (hI0 : ItsAt (fun _ => True) w ao0 n0 I0) (a1 : Int) (w1 : (Lit.int .i64 a1).wf = true) (s2 : Stg) (hs2 : I64 s2.t ∧ I64 s2.l ∧ I64 s2.a ∧ I64 s2.d ∧ I64 s2.z ∧ I64 s2.o ∧ I64 s2.i) :
    Calls Tryz.prog 4 #[.slice ao0 n0 cap0, .int .i64 a1, s2.val] w fun e w' => e = .returned (.bool true) ∧ Below w.heap.size w w' := by
  have HA := boxed (And.intro w1 hs2)
  clear w1 hs2
  have HI := boxed hI0
  have hn1 := boxed hn0
  unfold maxLen at hn0
  have KF : Box (∀ W, Below (w.alloc (.cells #[.int .i64 s2.t, .int .i64 s2.l, .int .i64 s2.a, .int .i64 s2.d, .int .i64 s2.z, .int .i64 s2.o, .int .i64 s2.i] 24)).heap.size (w.alloc (.cells #[.int .i64 s2.t, .int .i64 s2.l, .int .i64 s2.a, .int .i64 s2.d, .int .i64 s2.z, .int .i64 s2.o, .int .i64 s2.i] 24)) W → (W.cell? ⟨w.heap.size, 0, none⟩ = some (.int .i64 s2.t) ∧ W.cell? ⟨w.heap.size, 1, none⟩ = some (.int .i64 s2.l) ∧ W.cell? ⟨w.heap.size, 2, none⟩ = some (.int .i64 s2.a) ∧ W.cell? ⟨w.heap.size, 3, none⟩ = some (.int .i64 s2.d) ∧ W.cell? ⟨w.heap.size, 4, none⟩ = some (.int .i64 s2.z) ∧ W.cell? ⟨w.heap.size, 5, none⟩ = some (.int .i64 s2.o) ∧ W.cell? ⟨w.heap.size, 6, none⟩ = some (.int .i64 s2.i)) ∧ Below w.heap.size w W) := boxed (fun W hb => ⟨⟨kept_first hb 0, kept_first hb 1, kept_first hb 2, kept_first hb 3, kept_first hb 4, kept_first hb 5, kept_first hb 6⟩, kept_below (Below.refl _ w) (Nat.le_refl _) hb⟩)
  have hI1 : Box (∀ W, Below (w.alloc (.cells #[.int .i64 s2.t, .int .i64 s2.l, .int .i64 s2.a, .int .i64 s2.d, .int .i64 s2.z, .int .i64 s2.o, .int .i64 s2.i] 24)).heap.size (w.alloc (.cells #[.int .i64 s2.t, .int .i64 s2.l, .int .i64 s2.a, .int .i64 s2.d, .int .i64 s2.z, .int .i64 s2.o, .int .i64 s2.i] 24)) W → ItsAt (fun _ => True) W ao0 n0 I0) := boxed (fun W hb => HI.out.below (KF.out W hb).2)
  have hR := fun W => right9_any a1 s2 W
  clear hI0
  by_cases hp : 400 < n0 ∨ rgt I0 n0 = false ∨ (40 : Int) < nbk I0 n0
  · have hP := boxed (fun W hb => para9_none (fun _ => True) ao0 n0 cap0 I0 W (hI1.out W hb) hn1.out 40 hp)
    unfold Stg.val at *
    clear hp
    go_enter Tryz.func4, Tryz.ntmps4
    go_wp2_with fail
    refine (awake9_any _).mono ?_
    rintro e w1 ⟨rfl, hb1⟩
    have HB1 := boxed hb1
    clear hb1
    go_wp2_with fail
    refine (hP.out _ HB1.out).mono ?_
    rintro e w2 ⟨rfl, hb2⟩
    have HB2 := boxed (below_step HB1.out (Nat.le_refl _) hb2)
    clear hb2
    go_wp2_with fail
    go_ret
    exact ⟨rfl, (KF.out _ HB2.out).2⟩
  have hp1 : n0 ≤ 400 := by omega
  have hp2 : rgt I0 n0 = true := by cases h : rgt I0 n0 with | true => rfl | false => exact absurd (.inr (.inl h)) hp
  have hp3 : (nbk I0 n0 : Int) ≤ 40 := by omega
  have hP := boxed (fun W hb => para9_some (fun _ => True) ao0 n0 cap0 I0 W (hI1.out W hb) 40 hp1 hp2 hp3)
  clear hp
  by_cases hr : (okW a1 && okS s2) = false
  · rw [hr] at hR
    unfold Stg.val at *
    go_enter Tryz.func4, Tryz.ntmps4
    go_wp2_with fail
    refine (awake9_any _).mono ?_
    rintro e w1 ⟨rfl, hb1⟩
    have HB1 := boxed hb1
    clear hb1
    go_wp2_with fail
    refine (hP.out _ HB1.out).mono ?_
    rintro e w2 ⟨pb, rfl, hpa, hb2⟩
    have HB2 := boxed (below_step HB1.out (Nat.le_refl _) hb2)
    obtain ⟨⟨c0, c1, c2, c3, c4, c5, c6⟩, -⟩ := KF.out _ HB2.out
    clear hb2
    go_wp2_with fail
    refine (hR _).mono ?_
    rintro e w3 ⟨rfl, hb3⟩
    have HB3 := boxed (below_step HB2.out (Nat.le_refl _) hb3)
    clear hb3
    go_wp2_with fail
    go_ret
    exact ⟨rfl, (KF.out _ HB3.out).2⟩
  have hr1 : (okW a1 && okS s2) = true := by simpa using hr
  have hw : 1 ≤ a1 ∧ a1 ≤ 1073741824 := by simp [okW] at hr1; omega
  have hs : okS s2 = true := by simp at hr1; exact hr1.2
  obtain ⟨h0, h1, hfo, hok⟩ := (rgt_iff I0 n0).1 hp2
  have HBR := boxed (fun W pb (h : ParaAt (fun b => (w.alloc (.cells #[.int .i64 s2.t, .int .i64 s2.l, .int .i64 s2.a, .int .i64 s2.d, .int .i64 s2.z, .int .i64 s2.o, .int .i64 s2.i] 24)).heap.size ≤ b) W pb n0 I0) => break_any (s := s2) h h1 hok h0 hfo hw hs)
  rw [hr1] at hR
  clear hr hr1
  unfold Stg.val at *
  go_enter Tryz.func4, Tryz.ntmps4
  go_wp2_with fail
  refine (awake9_any _).mono ?_
  rintro e w1 ⟨rfl, hb1⟩
  have HB1 := boxed hb1
  clear hb1
  go_wp2_with fail
  refine (hP.out _ HB1.out).mono ?_
  rintro e w2 ⟨pb, rfl, hpa, hb2⟩
  have HB2 := boxed (below_step HB1.out (Nat.le_refl _) hb2)
  have HP2 := boxed (hpa.keep (kp_more (S' := fun b => (w.alloc (.cells #[.int .i64 s2.t, .int .i64 s2.l, .int .i64 s2.a, .int .i64 s2.d, .int .i64 s2.z, .int .i64 s2.o, .int .i64 s2.i] 24)).heap.size ≤ b) (fun b hb => Nat.le_trans HB1.out.size hb) (Below.refl _ _)))
  obtain ⟨⟨c0, c1, c2, c3, c4, c5, c6⟩, -⟩ := KF.out _ HB2.out
  clear hb2 hpa hP HB1
  go_wp2_with fail
  refine (hR _).mono ?_
  rintro e w3 ⟨rfl, hb3⟩
  have HB3 := boxed (below_step HB2.out (Nat.le_refl _) hb3)
  have hK := HBR.out _ _ (HP2.out.below hb3)
  clear hb3 HBR HP2 HB2 c0 c1 c2 c3 c4 c5 c6 hR
  obtain ⟨⟨c0, c1, c2, c3, c4, c5, c6⟩, -⟩ := KF.out _ HB3.out
  go_wp2_with fail
  refine hK.mono ?_
  rintro e w4 ⟨v, c, l, em, rfl, hB, hne, ho, hb4⟩
  have HB4 := boxed (below_step HB3.out (Nat.le_refl _) hb4)
  have hlm : (l.map (bkn I0 n0)).length = l.length := List.length_map _
  have hl : 0 < l.length := List.length_pos_iff.2 hne
  have hl2 : l.length ≤ 400 := by have := brk_len hB; omega
  have HBB := boxed (brk_best h1 hok hs hB)
  obtain ⟨g, gc, rfl, hg1, hg2⟩ := own_form ho hl
  have hN := own_nat ho hlm
  have HFA := boxed (fun W hb => fast_any (S := fun _ => True) (c := cap0) (width := a1) (s := s2) (hI1.out W hb) h1 hok hw hs (bk_last I0 n0 h0 hfo).1 em c l HBB.out.1 HBB.out.2)
  have HRB := boxed (fun W hb => refbreak_any (S := fun _ => True) (c := cap0) (width := a1) (s := s2) (hI1.out W hb) h1 hok hw hs (bk_last I0 n0 h0 hfo).1)
  have HLG := boxed (fun W hb => reflegal8_any (fun _ => True) ao0 n0 cap0 I0 W (hI1.out W hb) h1)
  have hb6 : Below w4.heap.size w4 (w4.alloc (.cells #[.slice (some ⟨g, 0, none⟩) l.length gc, .int .i64 c, .bool em] 31)) := (Below.refl _ w4).alloc (Nat.le_refl _) _
  obtain ⟨⟨c0, c1, c2, c3, c4, c5, c6⟩, -⟩ := KF.out _ HB4.out
  have hz1 := World.block_lt_of_cell? w4 _ c0
  simp only at hz1
  have hz2 : w.heap.size ≠ w4.heap.size := by omega
  have hfa := HFA.out _ (below_step HB4.out (Nat.le_refl _) hb6)
  unfold Stg.val at hfa HRB
  have HLM := boxed hlm
  have HN4 := boxed hN
  clear hb4 HB3 hK hB hne ho hN HI hI1 hn1 hn0 hb6 hlm
  generalize hgl : l.length = ll at *
  replace hgl := boxed hgl
  go_wp2_with fail
  refine hfa.mono ?_
  rintro e w5 ⟨bo, bc, rfl, hN5, hb5⟩
  have HX : Box (∀ W, Below (w5.alloc (.cells #[.slice bo ll bc, .int .i64 c, .bool em] 31)).heap.size (w5.alloc (.cells #[.slice bo ll bc, .int .i64 c, .bool em] 31)) W → (W.cell? ⟨w4.heap.size, 0, none⟩ = some (.slice (some ⟨g, 0, none⟩) ll gc) ∧ W.cell? ⟨w4.heap.size, 1, none⟩ = some (.int .i64 c) ∧ W.cell? ⟨w4.heap.size, 2, none⟩ = some (.bool em) ∧ W.cell? ⟨w5.heap.size, 0, none⟩ = some (.slice bo ll bc) ∧ W.cell? ⟨w5.heap.size, 1, none⟩ = some (.int .i64 c) ∧ W.cell? ⟨w5.heap.size, 2, none⟩ = some (.bool em) ∧ W.cell? ⟨w.heap.size, 0, none⟩ = some (.int .i64 s2.t) ∧ W.cell? ⟨w.heap.size, 1, none⟩ = some (.int .i64 s2.l) ∧ W.cell? ⟨w.heap.size, 2, none⟩ = some (.int .i64 s2.a) ∧ W.cell? ⟨w.heap.size, 3, none⟩ = some (.int .i64 s2.d) ∧ W.cell? ⟨w.heap.size, 4, none⟩ = some (.int .i64 s2.z) ∧ W.cell? ⟨w.heap.size, 5, none⟩ = some (.int .i64 s2.o) ∧ W.cell? ⟨w.heap.size, 6, none⟩ = some (.int .i64 s2.i)) ∧ (Below (w.alloc (.cells #[.int .i64 s2.t, .int .i64 s2.l, .int .i64 s2.a, .int .i64 s2.d, .int .i64 s2.z, .int .i64 s2.o, .int .i64 s2.i] 24)).heap.size (w.alloc (.cells #[.int .i64 s2.t, .int .i64 s2.l, .int .i64 s2.a, .int .i64 s2.d, .int .i64 s2.z, .int .i64 s2.o, .int .i64 s2.i] 24)) W) ∧ NAt (fun b => w3.heap.size ≤ b) W (some ⟨g, 0, none⟩) (l.map (bkn I0 n0)) ∧ NAt (fun _ => True) W bo (l.map (bkn I0 n0))) := boxed (fun W hb => by
    have hb5W : Below w5.heap.size w5 W := ((Below.refl _ w5).alloc (Nat.le_refl _) _).trans (hb.mono (by simp))
    have hbA : Below (w4.alloc (.cells #[.slice (some ⟨g, 0, none⟩) ll gc, .int .i64 c, .bool em] 31)).heap.size (w4.alloc (.cells #[.slice (some ⟨g, 0, none⟩) ll gc, .int .i64 c, .bool em] 31)) W := hb5.trans (hb5W.mono hb5.size)
    have hb4W : Below w4.heap.size w4 W := ((Below.refl _ w4).alloc (Nat.le_refl _) _).trans (hbA.mono (by simp))
    have hbK := below_step HB4.out (Nat.le_refl _) hb4W
    obtain ⟨⟨c0, c1, c2, c3, c4, c5, c6⟩, -⟩ := KF.out _ hbK
    have hE : W.heap[w4.heap.size]? = some (.cells #[.slice (some ⟨g, 0, none⟩) ll gc, .int .i64 c, .bool em] 31 (0, 0)) := (hbA.block w4.heap.size (by simp)).trans (heap_alloc_new w4 _)
    have hE2 : W.heap[w5.heap.size]? = some (.cells #[.slice bo ll bc, .int .i64 c, .bool em] 31 (0, 0)) := (hb.block w5.heap.size (by simp)).trans (heap_alloc_new w5 _)
    exact ⟨⟨row_cell hE 0 _ rfl, row_cell hE 1 _ rfl, row_cell hE 2 _ rfl, row_cell hE2 0 _ rfl, row_cell hE2 1 _ rfl, row_cell hE2 2 _ rfl, c0, c1, c2, c3, c4, c5, c6⟩, hbK, HN4.out.below hb4W, hN5.below hb5W⟩)
  clear hb5 hN5 hfa c0 c1 c2 c3 c4 c5 c6 HFA HN4 HB4
  have HS1 : Box (∀ W em2 T l2 b2 c2, Below (w5.alloc (.cells #[.slice bo ll bc, .int .i64 c, .bool em] 31)).heap.size (w5.alloc (.cells #[.slice bo ll bc, .int .i64 c, .bool em] 31)) W → NAt (fun _ => True) W b2 (l2.map (bkn I0 n0)) → Best (PX I0 n0 a1 s2 em2) 0 (-1) T l2 → (em2 = true → Noway (PX I0 n0 a1 s2 false) 0 (-1)) → em = em2 ∧ c = T ∧ l2.length = ll ∧ Calls Tryz.prog 11 #[.agg #[.slice bo ll bc, .int .i64 c, .bool em], .agg #[.slice b2 ll c2, .int .i64 c, .bool em]] W fun e w' => e = .returned (.bool true) ∧ Below W.heap.size W w') := boxed (fun W em2 T l2 b2 c2 hb hN2 hB2 hno2 => by
    obtain ⟨e1, e2, e3⟩ := best_one HBB.out.1 HBB.out.2 hB2 hno2
    subst e1; subst e2; subst e3
    refine ⟨rfl, rfl, hgl.out, ?_⟩
    have hsm := same9_any _ _ bo b2 (l.map (bkn I0 n0)) bc c2 c em W (HX.out _ hb).2.2.2 hN2 (by rw [HLM.out]; omega)
    rw [HLM.out] at hsm
    exact hsm)
  have HS2 : Box (∀ W, Below (w5.alloc (.cells #[.slice bo ll bc, .int .i64 c, .bool em] 31)).heap.size (w5.alloc (.cells #[.slice bo ll bc, .int .i64 c, .bool em] 31)) W → Calls Tryz.prog 11 #[.agg #[.slice (some ⟨g, 0, none⟩) ll gc, .int .i64 c, .bool em], .agg #[.slice bo ll bc, .int .i64 c, .bool em]] W fun e w' => e = .returned (.bool true) ∧ Below W.heap.size W w') := boxed (fun W hb => by
    have hsm := same9_any _ _ (some ⟨g, 0, none⟩) bo (l.map (bkn I0 n0)) gc bc c em W (HX.out _ hb).2.2.1 (HX.out _ hb).2.2.2 (by rw [HLM.out]; omega)
    rw [HLM.out] at hsm
    exact hsm)
  have HFin : Box (∀ W, Below (w5.alloc (.cells #[.slice bo ll bc, .int .i64 c, .bool em] 31)).heap.size (w5.alloc (.cells #[.slice bo ll bc, .int .i64 c, .bool em] 31)) W → Below w.heap.size w W) := boxed (fun W hb => (KF.out _ (HX.out W hb).2.1).2)
  have HPR := boxed (fun W (hb : Below (w5.alloc (.cells #[.slice bo ll bc, .int .i64 c, .bool em] 31)).heap.size (w5.alloc (.cells #[.slice bo ll bc, .int .i64 c, .bool em] 31)) W) => HRB.out W (HX.out W hb).2.1)
  have HLG2 := boxed (fun W (hb : Below (w5.alloc (.cells #[.slice bo ll bc, .int .i64 c, .bool em] 31)).heap.size (w5.alloc (.cells #[.slice bo ll bc, .int .i64 c, .bool em] 31)) W) => HLG.out W (HX.out W hb).2.1)
  have hnb : (lgs I0 n0 n0).length ≤ 400 := by have := lgs_len I0 n0 n0; omega
  have HD0 : Box (Below (w5.alloc (.cells #[.slice bo ll bc, .int .i64 c, .bool em] 31)).heap.size (w5.alloc (.cells #[.slice bo ll bc, .int .i64 c, .bool em] 31)) (w5.alloc (.cells #[.slice bo ll bc, .int .i64 c, .bool em] 31)).drew) := boxed (Below.refl _ _).drew
  clear KF HBB HLM HRB HA HLG
  by_cases h8 : (lgs I0 n0 n0).length ≤ 8
  · have t8 : decide (((lgs I0 n0 n0).length : Int) ≤ 8) = true := decide_eq_true (by omega)
    have t8' : decide ((lgs I0 n0 n0).length ≤ 8) = true := decide_eq_true h8
    generalize (lgs I0 n0 n0).length = nl at *
    go_wp2_with fail
    go_region_held3 (fun W => W.cell? ⟨w4.heap.size, 0, none⟩ = some (.slice (some ⟨g, 0, none⟩) ll gc) ∧ W.cell? ⟨w4.heap.size, 1, none⟩ = some (.int .i64 c) ∧ W.cell? ⟨w4.heap.size, 2, none⟩ = some (.bool em) ∧ W.cell? ⟨w5.heap.size, 0, none⟩ = some (.slice bo ll bc) ∧ W.cell? ⟨w5.heap.size, 1, none⟩ = some (.int .i64 c) ∧ W.cell? ⟨w5.heap.size, 2, none⟩ = some (.bool em) ∧ W.cell? ⟨w.heap.size, 0, none⟩ = some (.int .i64 s2.t) ∧ W.cell? ⟨w.heap.size, 1, none⟩ = some (.int .i64 s2.l) ∧ W.cell? ⟨w.heap.size, 2, none⟩ = some (.int .i64 s2.a) ∧ W.cell? ⟨w.heap.size, 3, none⟩ = some (.int .i64 s2.d) ∧ W.cell? ⟨w.heap.size, 4, none⟩ = some (.int .i64 s2.z) ∧ W.cell? ⟨w.heap.size, 5, none⟩ = some (.int .i64 s2.o) ∧ W.cell? ⟨w.heap.size, 6, none⟩ = some (.int .i64 s2.i))
      (first | with_reducible exact (HX.out _ HD0.out).1 | with_reducible exact (HX.out _ HB7.out).1 | with_reducible exact (HX.out _ HB8.out).1 | with_reducible exact (HX.out _ HBF.out).1)
      (first
        | (go_at_call 14; with_reducible refine (HLG2.out _ HD0.out).mono ?_; rintro e w7 ⟨v7, rfl, ho7, hb7⟩; obtain ⟨lo, lc, rfl⟩ := own_shape ho7; have HB7 := boxed (HD0.out.trans (hb7.mono HD0.out.size)); clear hb7 ho7)
        | (go_at_call 12; with_reducible refine (HPR.out _ HB7.out).mono ?_; rintro e w8 ⟨b2, c2, T, em2, l2, rfl, hN2, hB2, hno2, hb8⟩; have HB8 := boxed (HB7.out.trans (hb8.mono HB7.out.size)); obtain ⟨rfl, rfl, hl8, hsm⟩ := HS1.out w8 _ _ _ _ c2 HB8.out hN2 hB2 hno2; rw [hl8]; clear hN2 hB2 hno2 hb8)
        | (go_at_call 11; with_reducible refine hsm.mono ?_; rintro e wF ⟨rfl, hbF⟩; have HBF := boxed (HB8.out.trans (hbF.mono HB8.out.size)); clear hbF))
    obtain ⟨⟨r0, r1, r2, r3, r4, r5, -⟩, -⟩ := HX.out _ HBF.out
    go_wp2_with fail
    refine (HS2.out _ HBF.out).mono ?_
    rintro e wG ⟨rfl, hbG⟩
    have HBG := boxed (HBF.out.trans (hbG.mono HBF.out.size))
    clear hbG
    go_wp2_with fail
    go_ret
    exact ⟨rfl, HFin.out _ HBG.out⟩
  · have t8 : decide (((lgs I0 n0 n0).length : Int) ≤ 8) = false := decide_eq_false (by omega)
    have t8' : decide ((lgs I0 n0 n0).length ≤ 8) = false := decide_eq_false h8
    generalize (lgs I0 n0 n0).length = nl at *
    go_wp2_with fail
    refine wp_region_any (by kernel_rfl) ?_
    refine wpAny_take (i := 0) (v := .slice ao0 n0 cap0) rfl (by kernel_rfl) (by kernel_rfl) (by kernel_rfl) (fun _ _ _ h => h) (Or.inl ⟨by rfl, by intro w; go_simp⟩) ?_
    change wpAny _ _ _ _ _ _ (Act.put _ (some 34) _) _
    refine wpAny_ready (rs := [1]) (by kernel_rfl) (by simp) ?_
    refine AllReady.cons rfl (fun K hK => ?_) AllReady.nil
    · go_simp
      go_at_call 14
      refine (HLG2.out _ HD0.out).mono ?_
      rintro e w7 ⟨v7, rfl, ho7, hb7⟩
      obtain ⟨lo, lc, rfl⟩ := own_shape ho7
      have HB7 := boxed (HD0.out.trans (hb7.mono HD0.out.size))
      clear hb7 ho7
      refine hK _ _ ?_
      clear hK
      refine wpAny_take (i := 2) (v := .int .i64 (nl : Int)) rfl (by kernel_rfl) (by kernel_rfl) (by kernel_rfl) (fun _ _ _ h => h) (Or.inl ⟨by rfl, by intro w; go_simp⟩) ?_
      change wpAny _ _ _ _ _ _ (Act.put _ (some 36) _) _
      refine wpAny_take (i := 3) (v := .bool false) rfl (by kernel_rfl) (by kernel_rfl) (by kernel_rfl) (fun _ _ _ h => h) (Or.inl ⟨by rfl, by intro w; go_simp⟩) ?_
      change wpAny _ _ _ _ _ _ (Act.put _ (some 37) _) _
      refine wpAny_take (i := 4) (v := .bool false) rfl (by kernel_rfl) (by kernel_rfl) (by kernel_rfl) (fun _ _ _ h => h) (Or.inl ⟨by rfl, by intro w; go_simp⟩) ?_
      change wpAny _ _ _ _ _ _ (Act.put _ (some 38) _) _
      refine wpAny_take (i := 6) (v := undef) rfl (by kernel_rfl) (by kernel_rfl) (by kernel_rfl) (fun _ _ _ h => h) (Or.inr ⟨by kernel_rfl, rfl⟩) ?_
      change wpAny _ _ _ _ _ _ (Act.put _ (some 40) _) _
      refine wpAny_take (i := 7) (v := undef) rfl (by kernel_rfl) (by kernel_rfl) (by kernel_rfl) (fun _ _ _ h => h) (Or.inr ⟨by kernel_rfl, rfl⟩) ?_
      change wpAny _ _ _ _ _ _ (Act.put _ (some 41) _) _
      refine wpAny_take (i := 5) (v := undef) rfl (by kernel_rfl) (by kernel_rfl) (by kernel_rfl) (fun _ _ _ h => h) (Or.inr ⟨by kernel_rfl, rfl⟩) ?_
      change wpAny _ _ _ _ _ _ (Act.put _ (some 39) _) _
      refine wpAny_take (i := 8) (v := undef) rfl (by kernel_rfl) (by kernel_rfl) (by kernel_rfl) (fun _ _ _ h => h) (Or.inr ⟨by kernel_rfl, rfl⟩) ?_
      change wpAny _ _ _ _ _ _ (Act.put _ (some 42) _) _
      refine wpAny_take (i := 9) (v := undef) rfl (by kernel_rfl) (by kernel_rfl) (by kernel_rfl) (fun _ _ _ h => h) (Or.inr ⟨by kernel_rfl, rfl⟩) ?_
      change wpAny _ _ _ _ _ _ (Act.put _ (some 43) _) _
      refine wpAny_take (i := 10) (v := undef) rfl (by kernel_rfl) (by kernel_rfl) (by kernel_rfl) (fun _ _ _ h => h) (Or.inr ⟨by kernel_rfl, rfl⟩) ?_
      change wpAny _ _ _ _ _ _ (Act.put _ (some 44) _) _
      refine wpAny_take (i := 11) (v := undef) rfl (by kernel_rfl) (by kernel_rfl) (by kernel_rfl) (fun _ _ _ h => h) (Or.inr ⟨by kernel_rfl, rfl⟩) ?_
      change wpAny _ _ _ _ _ _ (Act.put _ (some 45) _) _
      refine wpAny_take (i := 12) (v := .bool false) rfl (by kernel_rfl) (by kernel_rfl) (by kernel_rfl) (fun _ _ _ h => h) (Or.inl ⟨by rfl, by intro w; go_simp⟩) ?_
      change wpAny _ _ _ _ _ _ (Act.put _ (some 46) _) _
      refine wpAny_done (by kernel_rfl) ?_ _
      simp only [Act.put, List.setIfInBounds_toArray, List.set_cons_succ, List.set_cons_zero]
      obtain ⟨⟨r0, r1, r2, r3, r4, r5, -⟩, -⟩ := HX.out _ HB7.out
      go_wp2_with fail
      refine (HS2.out _ HB7.out).mono ?_
      rintro e wG ⟨rfl, hbG⟩
      have HBG := boxed (HB7.out.trans (hbG.mono HB7.out.size))
      clear hbG
      go_wp2_with fail
      go_ret
      exact ⟨rfl, HFin.out _ HBG.out⟩

set_option maxRecDepth 100000 in
theorem lifted (os : Os) (started : os.Started) (H : Type) (enc : TypeId × Value → H) :
    ReturnsInHanded {} Tryz.checked os 4 .any (Rows.breaksLongSpec.pre6 enc Tryz.prog Tryz.f4 Rows.breaksLongRow.domain false) (Rows.breaksLongSpec.post enc Tryz.prog Tryz.f4 false true false false) := by
  refine returnsInHanded_of_change_sized (C := Tryz.checked) own started (by kernel_rfl) Tryz.func4
    (ChangeSpec.witness6 (enc := enc) (C := Tryz.checked) false ⟨#[], #[.slice none 0 0, .int .i64 0, .agg #[.int .i64 0, .int .i64 0, .int .i64 0, .int .i64 0, .int .i64 0, .int .i64 0, .int .i64 0]], []⟩ 8 (by kernel_rfl) (by kernel_rfl) (by kernel_rfl) (by kernel_rfl)) ?_
  intro W base args ds gs before hval0 hW hcnd hsz0 _
  have hval : ∀ (j : Nat) t v, Tryz.f4.params[j]? = some t → args[j]? = some v → Value.okWide Tryz.prog W .any base t v := hval0
  have hsz : (DataW.weightsEach Tryz.prog (Tryz.f4.params.toList ++ Rows.breaksLongSpec.plain.varTypes Tryz.prog) (ds ++ gs)).all (· ≤ reachBytes) = true := hsz0
  have hW' := hW
  obtain ⟨p, q, hA0, hV, rfl, hfz, hnd⟩ := hW
  have hA : DataW.TrodAll enc Tryz.prog W 0 (fun _ => true) true Tryz.f4.params.toList args.toList ds p := hA0
  rw [Tryz.params4] at hA hval hsz
  obtain ⟨v0, vs0, d0, ds0, p0, q0, hargs, rfl, rfl, h0, r0⟩ := trodAll_cons hA
  obtain ⟨v1, vs1, d1, ds1, p1, q1, rfl, rfl, rfl, h1, r1⟩ := trodAll_cons r0
  obtain ⟨v2, vs2, d2, ds2, p2, q2, rfl, rfl, rfl, h2, r2⟩ := trodAll_cons r1
  obtain ⟨rfl, rfl, rfl⟩ := trodAll_nil r2
  obtain rfl : args = #[v0, v1, v2] := by cases args; simp_all
  obtain ⟨rfl, rfl⟩ := trodVars_none hV
  obtain ⟨ao0, n0, cap0, rfl⟩ := okWide_slice Tryz.underlying22 (hval 0 22 v0 rfl rfl)
  have k0 := h0
  have lt0 : ∀ x ∈ p0, x.block < W.heap.size := by obtain ⟨m, hm⟩ := k0; exact DataW.trod_lt m _ _ _ hm
  obtain ⟨hn0, I0, hI0⟩ : n0 ≤ maxLen ∧ ∃ I, ItsAt (fun _ => True) W ao0 n0 I := by
    obtain ⟨fuel, hf⟩ := k0
    exact open_items hf
  obtain ⟨a1, rfl, rfl, rfl, w1⟩ := open_int Tryz.underlying3 (hval 1 3 v1 rfl rfl) h1
  have k2 := h2
  have lt2 : ∀ x ∈ p2, x.block < W.heap.size := by obtain ⟨m, hm⟩ := k2; exact DataW.trod_lt m _ _ _ hm
  obtain ⟨s2, rfl, hs2⟩ : ∃ x : Stg, v2 = x.val ∧ I64 x.t ∧ I64 x.l ∧ I64 x.a ∧ I64 x.d ∧ I64 x.z ∧ I64 x.o ∧ I64 x.i := by
    obtain ⟨fuel, hf⟩ := k2
    exact sett_value hf
  clear hA0 hval0
  refine (walk W ao0 n0 cap0 I0 hn0 hI0 a1 w1 s2 hs2).mono fun e W' ⟨he, hg⟩ => ?_
  subst he
  exact ⟨_, rfl, _, _, _, [], _, [], hW', trodAll_mk1 (shut_bool Tryz.underlying4 _), (trodAll_cons_mk (Below.trod laidOut (by kernel_rfl) (of_decide_eq_true (by kernel_rfl)) k0 hg lt0) (trodAll_cons_mk (shut_int Tryz.underlying3 w1) (trodAll_cons_mk (Below.trod laidOut (by kernel_rfl) (of_decide_eq_true (by kernel_rfl)) k2 hg lt2) trodAll_mk0))), rfl, hg.frame _, fun h => by cases h⟩

theorem proved : Rows.BreaksLongSaid :=
  OpenClaim.holds_of_wide 4 Tryz.f4 rfl rfl rfl rfl rfl rfl rfl ⟨rfl, rfl, rfl, rfl, rfl⟩ rfl rfl rfl rfl rfl (by kernel_rfl) Tryz.func4 (by kernel_rfl)
    (of_decide_eq_true (by kernel_rfl)) (by unfold Func.isWrapper; first | (rw [if_pos (by decide +kernel)]; kernel_rfl) | (rw [if_neg (by decide +kernel)]; exact ⟨rfl, rfl⟩))
    (fun os started H enc _ => lifted os started H enc)
#print axioms proved
end Go.Proofs.YtkmeeblkckfepaaGreat.breaksLong
