/-
  For any items and any two widths with settings the statement BreaksAgain of the program returns true: a paragraph is broken the same each time, and what is told is the asker's. No condition besides the statement's own.
-/
import Derived.Test.YtkmeeblkckfepabGreatRows
import Derived.WalkKit
import Derived.ProofKit
import Derived.OpenShut
import Derived.SizedLaws
import Derived.ShutString
import Derived.ChangeOld
import Derived.Below
import Derived.Test.YtkmeeblkckfepabGreatPk18
import Derived.Test.YtkmeeblkckfepabGreatPk17
import Derived.Test.YtkmeeblkckfepabGreatPk10
import Derived.Test.YtkmeeblkckfepabGreatPk12
namespace Go.Proofs.YtkmeeblkckfepabGreat.breaksAgain
open Go.ChangeShapes Go.WideShapes Go.ChangeAt Go.RowKit
open Go.ChangeMaps (open_string shut_string)
set_option linter.unusedVariables false
set_option linter.unusedSimpArgs false

theorem own : ownKnob Tryz.prog.godebug = none := by kernel_rfl
theorem laidOut : laidOutB Tryz.prog = true := by kernel_rfl

set_option maxRecDepth 100000 in
set_option maxHeartbeats 16000000 in
theorem walk (w : World) (ao0 : Option Addr) (n0 cap0 : Nat) (I0 : Nat → Itm) (hn0 : n0 ≤ maxLen) (hI0 : ItsAt (fun _ => True) w ao0 n0 I0) (wd1 : Int) (s1 : Stg) (hs1 : I64 wd1 ∧ I64 s1.t ∧ I64 s1.l ∧ I64 s1.a ∧ I64 s1.d ∧ I64 s1.z ∧ I64 s1.o ∧ I64 s1.i) (wd2 : Int) (s2 : Stg) (hs2 : I64 wd2 ∧ I64 s2.t ∧ I64 s2.l ∧ I64 s2.a ∧ I64 s2.d ∧ I64 s2.z ∧ I64 s2.o ∧ I64 s2.i) :
    Calls Tryz.prog 3 #[.slice ao0 n0 cap0, setV wd1 s1, setV wd2 s2] w fun e w' => e = .returned (.bool true) ∧ Below w.heap.size w w' := by
  have HA := boxed (And.intro hs1 hs2)
  clear hs1 hs2
  have HI := boxed hI0
  have hn1 := boxed hn0
  unfold maxLen at hn0
  have KF : Box (∀ W, Below ((w.alloc (.cells #[.int .i64 wd1, .int .i64 s1.t, .int .i64 s1.l, .int .i64 s1.a, .int .i64 s1.d, .int .i64 s1.z, .int .i64 s1.o, .int .i64 s1.i] 26)).alloc (.cells #[.int .i64 wd2, .int .i64 s2.t, .int .i64 s2.l, .int .i64 s2.a, .int .i64 s2.d, .int .i64 s2.z, .int .i64 s2.o, .int .i64 s2.i] 26)).heap.size ((w.alloc (.cells #[.int .i64 wd1, .int .i64 s1.t, .int .i64 s1.l, .int .i64 s1.a, .int .i64 s1.d, .int .i64 s1.z, .int .i64 s1.o, .int .i64 s1.i] 26)).alloc (.cells #[.int .i64 wd2, .int .i64 s2.t, .int .i64 s2.l, .int .i64 s2.a, .int .i64 s2.d, .int .i64 s2.z, .int .i64 s2.o, .int .i64 s2.i] 26)) W → (W.cell? ⟨w.heap.size, 0, none⟩ = some (.int .i64 wd1) ∧ W.cell? ⟨w.heap.size, 1, none⟩ = some (.int .i64 s1.t) ∧ W.cell? ⟨w.heap.size, 2, none⟩ = some (.int .i64 s1.l) ∧ W.cell? ⟨w.heap.size, 3, none⟩ = some (.int .i64 s1.a) ∧ W.cell? ⟨w.heap.size, 4, none⟩ = some (.int .i64 s1.d) ∧ W.cell? ⟨w.heap.size, 5, none⟩ = some (.int .i64 s1.z) ∧ W.cell? ⟨w.heap.size, 6, none⟩ = some (.int .i64 s1.o) ∧ W.cell? ⟨w.heap.size, 7, none⟩ = some (.int .i64 s1.i)) ∧ (W.cell? ⟨w.heap.size + 1, 0, none⟩ = some (.int .i64 wd2) ∧ W.cell? ⟨w.heap.size + 1, 1, none⟩ = some (.int .i64 s2.t) ∧ W.cell? ⟨w.heap.size + 1, 2, none⟩ = some (.int .i64 s2.l) ∧ W.cell? ⟨w.heap.size + 1, 3, none⟩ = some (.int .i64 s2.a) ∧ W.cell? ⟨w.heap.size + 1, 4, none⟩ = some (.int .i64 s2.d) ∧ W.cell? ⟨w.heap.size + 1, 5, none⟩ = some (.int .i64 s2.z) ∧ W.cell? ⟨w.heap.size + 1, 6, none⟩ = some (.int .i64 s2.o) ∧ W.cell? ⟨w.heap.size + 1, 7, none⟩ = some (.int .i64 s2.i)) ∧ Below w.heap.size w W) := boxed (fun W hb => by
    obtain ⟨q0, q1, q2, q3⟩ := laid2 w (.cells #[.int .i64 wd1, .int .i64 s1.t, .int .i64 s1.l, .int .i64 s1.a, .int .i64 s1.d, .int .i64 s1.z, .int .i64 s1.o, .int .i64 s1.i] 26) (.cells #[.int .i64 wd2, .int .i64 s2.t, .int .i64 s2.l, .int .i64 s2.a, .int .i64 s2.d, .int .i64 s2.z, .int .i64 s2.o, .int .i64 s2.i] 26)
    have e0 := (hb.block w.heap.size (by rw [q3]; omega)).trans q0
    have e1 := (hb.block (w.heap.size + 1) (by rw [q3]; omega)).trans q1
    exact ⟨⟨row_cell e0 0 _ rfl, row_cell e0 1 _ rfl, row_cell e0 2 _ rfl, row_cell e0 3 _ rfl, row_cell e0 4 _ rfl, row_cell e0 5 _ rfl, row_cell e0 6 _ rfl, row_cell e0 7 _ rfl⟩, ⟨row_cell e1 0 _ rfl, row_cell e1 1 _ rfl, row_cell e1 2 _ rfl, row_cell e1 3 _ rfl, row_cell e1 4 _ rfl, row_cell e1 5 _ rfl, row_cell e1 6 _ rfl, row_cell e1 7 _ rfl⟩, q2.trans (hb.mono q2.size)⟩)
  have hI1 : Box (∀ W, Below ((w.alloc (.cells #[.int .i64 wd1, .int .i64 s1.t, .int .i64 s1.l, .int .i64 s1.a, .int .i64 s1.d, .int .i64 s1.z, .int .i64 s1.o, .int .i64 s1.i] 26)).alloc (.cells #[.int .i64 wd2, .int .i64 s2.t, .int .i64 s2.l, .int .i64 s2.a, .int .i64 s2.d, .int .i64 s2.z, .int .i64 s2.o, .int .i64 s2.i] 26)).heap.size ((w.alloc (.cells #[.int .i64 wd1, .int .i64 s1.t, .int .i64 s1.l, .int .i64 s1.a, .int .i64 s1.d, .int .i64 s1.z, .int .i64 s1.o, .int .i64 s1.i] 26)).alloc (.cells #[.int .i64 wd2, .int .i64 s2.t, .int .i64 s2.l, .int .i64 s2.a, .int .i64 s2.d, .int .i64 s2.z, .int .i64 s2.o, .int .i64 s2.i] 26)) W → ItsAt (fun _ => True) W ao0 n0 I0) := boxed (fun W hb => HI.out.below (KF.out W hb).2.2)
  have hR1 := fun W => right9_any wd1 s1 W
  have hR2 := fun W => right9_any wd2 s2 W
  clear hI0
  by_cases hp : 400 < n0 ∨ rgt I0 n0 = false ∨ (120 : Int) < nbk I0 n0
  · have hP := boxed (fun W hb => para9_none (fun _ => True) ao0 n0 cap0 I0 W (hI1.out W hb) hn1.out 120 hp)
    unfold Stg.val setV at *
    clear hp
    go_enter Tryz.func3, Tryz.ntmps3
    go_wp2_with fail
    refine (awake9_any _).mono ?_
    rintro e w1 ⟨rfl, hb1⟩
    have HB1 := boxed hb1
    clear hb1
    go_wp2_with fail
    refine (hP.out _ HB1.out).mono ?_
    rintro e w2 ⟨rfl, hb2⟩
    have HB2 := boxed (below_step HB1.out (Nat.le_refl _) hb2)
    clear hb2
    go_wp2_with fail
    go_ret
    exact ⟨rfl, (KF.out _ HB2.out).2.2⟩
  have hp1 : n0 ≤ 400 := by omega
  have hp2 : rgt I0 n0 = true := by cases h : rgt I0 n0 with | true => rfl | false => exact absurd (.inr (.inl h)) hp
  have hp3 : (nbk I0 n0 : Int) ≤ 120 := by omega
  have hP := boxed (fun W hb => para9_some (fun _ => True) ao0 n0 cap0 I0 W (hI1.out W hb) 120 hp1 hp2 hp3)
  clear hp
  by_cases hr : (okW wd1 && okS s1) = false
  · rw [hr] at hR1
    unfold Stg.val setV at *
    go_enter Tryz.func3, Tryz.ntmps3
    go_wp2_with fail
    refine (awake9_any _).mono ?_
    rintro e w1 ⟨rfl, hb1⟩
    have HB1 := boxed hb1
    clear hb1
    go_wp2_with fail
    refine (hP.out _ HB1.out).mono ?_
    rintro e w2 ⟨pb, rfl, hpa, hb2⟩
    have HB2 := boxed (below_step HB1.out (Nat.le_refl _) hb2)
    have HP2 := boxed (hpa.keep (S' := fun b => b < w2.heap.size) (fun b i u hs hc => ⟨by have := World.block_lt_of_cell? w2 _ hc; simpa using this, hc⟩))
    obtain ⟨⟨c0, c1, c2, c3, c4, c5, c6, c7⟩, ⟨d0, d1, d2, d3, d4, d5, d6, d7⟩, -⟩ := KF.out _ HB2.out
    clear hb2 hpa hP HB1
    go_wp2_with fail
    refine (hR1 _).mono ?_
    rintro e w3 ⟨rfl, hb3⟩
    have HB3 := boxed (below_step HB2.out (Nat.le_refl _) hb3)
    have HP3 := boxed (HP2.out.keep (S' := fun b => b < w2.heap.size) (fun b i u hs hc => ⟨hs, hold hb3 hc⟩))
    have hz3 := hb3.size
    clear hb3 HP2 hR1 c0 c1 c2 c3 c4 c5 c6 c7 d0 d1 d2 d3 d4 d5 d6 d7
    obtain ⟨⟨c0, c1, c2, c3, c4, c5, c6, c7⟩, ⟨d0, d1, d2, d3, d4, d5, d6, d7⟩, -⟩ := KF.out _ HB3.out
    go_wp2_with fail
    go_ret
    exact ⟨rfl, (KF.out _ HB3.out).2.2⟩
  have hr1 : (okW wd1 && okS s1) = true := by simpa using hr
  have hwa : 1 ≤ wd1 ∧ wd1 ≤ 1073741824 := by simp [okW] at hr1; omega
  have hsa : okS s1 = true := by simp at hr1; exact hr1.2
  rw [hr1] at hR1
  clear hr hr1
  by_cases hr : (okW wd2 && okS s2) = false
  · rw [hr] at hR2
    unfold Stg.val setV at *
    go_enter Tryz.func3, Tryz.ntmps3
    go_wp2_with fail
    refine (awake9_any _).mono ?_
    rintro e w1 ⟨rfl, hb1⟩
    have HB1 := boxed hb1
    clear hb1
    go_wp2_with fail
    refine (hP.out _ HB1.out).mono ?_
    rintro e w2 ⟨pb, rfl, hpa, hb2⟩
    have HB2 := boxed (below_step HB1.out (Nat.le_refl _) hb2)
    have HP2 := boxed (hpa.keep (S' := fun b => b < w2.heap.size) (fun b i u hs hc => ⟨by have := World.block_lt_of_cell? w2 _ hc; simpa using this, hc⟩))
    obtain ⟨⟨c0, c1, c2, c3, c4, c5, c6, c7⟩, ⟨d0, d1, d2, d3, d4, d5, d6, d7⟩, -⟩ := KF.out _ HB2.out
    clear hb2 hpa hP HB1
    go_wp2_with fail
    refine (hR1 _).mono ?_
    rintro e w3 ⟨rfl, hb3⟩
    have HB3 := boxed (below_step HB2.out (Nat.le_refl _) hb3)
    have HP3 := boxed (HP2.out.keep (S' := fun b => b < w2.heap.size) (fun b i u hs hc => ⟨hs, hold hb3 hc⟩))
    have hz3 := hb3.size
    clear hb3 HP2 hR1 c0 c1 c2 c3 c4 c5 c6 c7 d0 d1 d2 d3 d4 d5 d6 d7
    obtain ⟨⟨c0, c1, c2, c3, c4, c5, c6, c7⟩, ⟨d0, d1, d2, d3, d4, d5, d6, d7⟩, -⟩ := KF.out _ HB3.out
    go_wp2_with fail
    refine (hR2 _).mono ?_
    rintro e w4 ⟨rfl, hb4⟩
    have HB4 := boxed (below_step HB3.out (Nat.le_refl _) hb4)
    have HP4 := boxed (HP3.out.keep (S' := fun b => b < w2.heap.size) (fun b i u hs hc => ⟨hs, hold hb4 hc⟩))
    have hz4 := Nat.le_trans hz3 hb4.size
    clear hb4 HP3 hR2 hz3 HB3 c0 c1 c2 c3 c4 c5 c6 c7 d0 d1 d2 d3 d4 d5 d6 d7
    obtain ⟨⟨c0, c1, c2, c3, c4, c5, c6, c7⟩, ⟨d0, d1, d2, d3, d4, d5, d6, d7⟩, -⟩ := KF.out _ HB4.out
    go_wp2_with fail
    go_ret
    exact ⟨rfl, (KF.out _ HB4.out).2.2⟩
  have hr1 : (okW wd2 && okS s2) = true := by simpa using hr
  have hwb : 1 ≤ wd2 ∧ wd2 ≤ 1073741824 := by simp [okW] at hr1; omega
  have hsb : okS s2 = true := by simp at hr1; exact hr1.2
  rw [hr1] at hR2
  clear hr hr1
  obtain ⟨h0, h1, hfo, hok⟩ := (rgt_iff I0 n0).1 hp2
  have HBR := boxed (fun S W pb (h : ParaAt S W pb n0 I0) => break_any (s := s1) h h1 hok h0 hfo hwa hsa)
  have HBS := boxed (fun S W pb (h : ParaAt S W pb n0 I0) => break_any (s := s2) h h1 hok h0 hfo hwb hsb)
  clear hwa hsa hwb hsb hfo hok
  unfold Stg.val setV at *
  go_enter Tryz.func3, Tryz.ntmps3
  go_wp2_with fail
  refine (awake9_any _).mono ?_
  rintro e w1 ⟨rfl, hb1⟩
  have HB1 := boxed hb1
  clear hb1
  go_wp2_with fail
  refine (hP.out _ HB1.out).mono ?_
  rintro e w2 ⟨pb, rfl, hpa, hb2⟩
  have HB2 := boxed (below_step HB1.out (Nat.le_refl _) hb2)
  have HP2 := boxed (hpa.keep (S' := fun b => b < w2.heap.size) (fun b i u hs hc => ⟨by have := World.block_lt_of_cell? w2 _ hc; simpa using this, hc⟩))
  obtain ⟨⟨c0, c1, c2, c3, c4, c5, c6, c7⟩, ⟨d0, d1, d2, d3, d4, d5, d6, d7⟩, -⟩ := KF.out _ HB2.out
  clear hb2 hpa hP HB1
  go_wp2_with fail
  refine (hR1 _).mono ?_
  rintro e w3 ⟨rfl, hb3⟩
  have HB3 := boxed (below_step HB2.out (Nat.le_refl _) hb3)
  have HP3 := boxed (HP2.out.keep (S' := fun b => b < w2.heap.size) (fun b i u hs hc => ⟨hs, hold hb3 hc⟩))
  have hz3 := hb3.size
  clear hb3 HP2 hR1 c0 c1 c2 c3 c4 c5 c6 c7 d0 d1 d2 d3 d4 d5 d6 d7
  obtain ⟨⟨c0, c1, c2, c3, c4, c5, c6, c7⟩, ⟨d0, d1, d2, d3, d4, d5, d6, d7⟩, -⟩ := KF.out _ HB3.out
  go_wp2_with fail
  refine (hR2 _).mono ?_
  rintro e w4 ⟨rfl, hb4⟩
  have HB4 := boxed (below_step HB3.out (Nat.le_refl _) hb4)
  have HP4 := boxed (HP3.out.keep (S' := fun b => b < w2.heap.size) (fun b i u hs hc => ⟨hs, hold hb4 hc⟩))
  have hz4 := Nat.le_trans hz3 hb4.size
  clear hb4 HP3 hR2 hz3 HB3 c0 c1 c2 c3 c4 c5 c6 c7 d0 d1 d2 d3 d4 d5 d6 d7
  obtain ⟨⟨c0, c1, c2, c3, c4, c5, c6, c7⟩, ⟨d0, d1, d2, d3, d4, d5, d6, d7⟩, -⟩ := KF.out _ HB4.out
  have hK := HBR.out _ _ _ HP4.out
  go_wp2_with fail
  refine hK.mono ?_
  rintro e w5 ⟨v, c, l, em, rfl, hB, hne, ho, hb5⟩
  have hl2 : l.length ≤ 400 := by have := brk_len hB; omega
  have hl : 0 < l.length := List.length_pos_iff.2 hne
  have HBK := boxed hB
  have HB5 := boxed (below_step HB4.out (Nat.le_refl _) hb5)
  have HP5 := boxed (HP4.out.keep (S' := fun b => b < w2.heap.size) (fun b i u hs hc => ⟨hs, hold hb5 hc⟩))
  have hz5 := Nat.le_trans hz4 hb5.size
  obtain ⟨g, gc, rfl, hg1, hg2⟩ := own_form ho hl
  have hAL : ((w.alloc (.cells #[.int .i64 wd1, .int .i64 s1.t, .int .i64 s1.l, .int .i64 s1.a, .int .i64 s1.d, .int .i64 s1.z, .int .i64 s1.o, .int .i64 s1.i] 26)).alloc (.cells #[.int .i64 wd2, .int .i64 s2.t, .int .i64 s2.l, .int .i64 s2.a, .int .i64 s2.d, .int .i64 s2.z, .int .i64 s2.o, .int .i64 s2.i] 26)).heap.size ≤ g := Nat.le_trans HB4.out.size hg1
  have HRow : Box (∃ cur, w5.heap[g]? = some (.cells cur 3 (0, 0)) ∧ l.length ≤ cur.size) := boxed (by
    rcases ho.2 with ⟨e, -⟩ | ⟨g', cap, cur, e, -, e2, e3, -, e4, -⟩
    · cases e
    · injection e with e5 e6 e7
      injection e5 with e5
      injection e5 with e5
      subst e5
      exact ⟨cur, e2, by omega⟩)
  have hlm : (l.map (bkn I0 n0)).length = l.length := List.length_map _
  have hN := own_nat ho hlm
  generalize hL : l.map (bkn I0 n0) = L at *
  clear hb5 hK ho hne hB HB4 HP4 c0 c1 c2 c3 c4 c5 c6 c7 d0 d1 d2 d3 d4 d5 d6 d7
  generalize l.length = ln at *
  have HN := boxed hN
  have HL := boxed hL
  clear hN hL
  obtain ⟨i0, hi, hz0, hz1, hz2⟩ := info_parts info_int8
  have hown6 : ((w5.alloc (.cells #[.slice (some ⟨g, 0, none⟩) ln gc, .int .i64 c, .bool em] 33)).alloc (.cells #[] 3)).ownsRow (w5.heap.size + 1) 3 1 (.slice (some ⟨w5.heap.size + 1, 0, none⟩) 0 0) 0 [] := by
    have := World.ownsRow_made (base := w5.heap.size + 1) (e := 3) (size := 1) (w5.alloc (.cells #[.slice (some ⟨g, 0, none⟩) ln gc, .int .i64 c, .bool em] 33)) #[] 0 (by simp) (Nat.zero_le _) rfl
    rwa [show (w5.alloc (.cells #[.slice (some ⟨g, 0, none⟩) ln gc, .int .i64 c, .bool em] 33)).heap.size = w5.heap.size + 1 by simp] at this
  go_wp2_with (at_builtin; refine wpList_append_own _ rfl _ _ 31 rfl (w5.heap.size + 1) 3 i0 _ 1 8 Tryz.underlying31 hi hz0 hz1 hz2 rfl (by decide) _ _ _ rfl hown6 ⟨g, 0, none⟩ ln gc (ncs L) rfl ?qc1 ?qc2 ?qc3 ?qc4 ?qc5 ?qc6 ?_)
  case qc1 => rw [ncs_len]; omega
  case qc2 =>
    intro j u hj
    have hjn : j < L.length := by
      have := (List.getElem?_eq_some_iff.1 hj).1
      rw [ncs_len] at this
      exact this
    rw [Addr.add_lit]
    obtain ⟨g', e, -, h1⟩ := HN.out j hjn
    injection e with e
    injection e with e
    subst e
    refine Lib.cell?_alloc_some _ (Lib.cell?_alloc_some _ ?_)
    rw [Nat.zero_add, h1, ← hj, ncs_get L j hjn]
  case qc3 => exact ncs_one _
  case qc4 => unfold maxLen; omega
  case qc5 => omega
  case qc6 => simp
  intro v' w6 hown hgrow hnil
  have hO6 : w6.ownsRow (w5.heap.size + 1) 3 1 v' ln (ncs L) := by simpa using hown
  have hb6 : Below (w5.heap.size + 1) (w5.alloc (.cells #[.slice (some ⟨g, 0, none⟩) ln gc, .int .i64 c, .bool em] 33)) w6 := ((Below.refl _ _).alloc (by simp) _).grown hgrow (by simp) (by intro k hk; simp [Value.ownBlock] at hk; omega)
  have hb56 : Below w5.heap.size w5 w6 := ((Below.refl _ w5).alloc (Nat.le_refl _) _).trans (hb6.mono (by omega))
  have HA6 := boxed ((hb6.block w5.heap.size (by omega)).trans (heap_alloc_new w5 _))
  have HB6 := boxed (below_step HB5.out (Nat.le_refl _) hb56)
  have HP6 := boxed (HP5.out.keep (S' := fun b => b < w2.heap.size) (fun b i u hs hc => ⟨hs, hold hb56 hc⟩))
  have HR6 : Box (∃ cur, w6.heap[g]? = some (.cells cur 3 (0, 0)) ∧ ln ≤ cur.size) := boxed (by
    obtain ⟨cur, e1, e2⟩ := HRow.out
    exact ⟨cur, (hb56.block g hg2).trans e1, e2⟩)
  obtain ⟨q, qc, rfl, hq1, hq2⟩ := own_form hO6 hl
  have HK6 := boxed (own_nat hO6 hlm)
  have hz6 := hb56.size
  have hz6' := heap_lt HA6.out
  clear hown hgrow hnil hO6 hb6 hb56 HP5 HRow hown6 HN
  go_wp2_with fail
  go_loopw [11] (fun iv wr => ∃ i : Nat, i ≤ ln ∧ iv = .int .i64 (i : Int) ∧ Box (∃ cur, wr.heap[g]? = some (.cells cur 3 (0, 0)) ∧ ln ≤ cur.size) ∧ Box (Oth (fun k => k = g) w6 wr)) (fun iv _ => ln - (intOf iv).toNat)
  case atStart => exact ⟨0, Nat.zero_le _, rfl, HR6, boxed (Oth.refl _ _)⟩
  case round =>
    obtain ⟨i, hi, rfl, HRr, HOr⟩ := hrel
    have hAr := (HOr.out.block w5.heap.size hz6' (by omega)).trans HA6.out
    obtain ⟨⟨x0, x1, x2⟩, y0, y1, y2⟩ := cells3 hAr
    by_cases hlt : i < ln
    · obtain ⟨cur, he, hcz⟩ := HRr.out
      obtain ⟨u, hu⟩ : ∃ u, cur[i]? = some u := ⟨cur[i], Array.getElem?_eq_getElem (by omega)⟩
      have k1 := row_cell he i u hu
      have k2 := row_free he i
      have t1 : decide ((i : Int) < (ln : Int)) = true := decide_eq_true (by omega)
      have t1' : decide (i < ln) = true := decide_eq_true hlt
      have HR2 : Box (∃ cur, (wr.setCell ⟨g, i, none⟩ (.int .i64 (-1))).heap[g]? = some (.cells cur 3 (0, 0)) ∧ ln ≤ cur.size) := boxed ⟨_, arr_set _ he, by simpa using hcz⟩
      have HO2 : Box (Oth (fun k => k = g) w6 (wr.setCell ⟨g, i, none⟩ (.int .i64 (-1)))) := boxed (HOr.out.set _ rfl)
      clear he hu hcz HRr HOr hAr
      go_wp2_with fail
      go_roundw
      case rel => exact ⟨i + 1, by omega, by go_num, HR2, HO2⟩
      case measure => simp [intOf]; omega
    · have e : i = ln := by omega
      subst e
      have hb67 : Below w4.heap.size w6 wr := HOr.out.below (fun k hk => by rw [hk]; exact hg1) (by omega)
      have HB7 := boxed (HB6.out.trans (HOr.out.below (fun k hk => by rw [hk]; exact hAL) (by omega)))
      have HP7 := boxed (HP6.out.keep (S' := fun b => b < w2.heap.size) (fun b i u hs hc => ⟨hs, by rw [hb67.cell (by show b < w4.heap.size; omega)]; exact hc⟩))
      have HK7 := boxed (HK6.out.keep (S' := fun b => w5.heap.size + 1 ≤ b) (fun b i u hs hc => ⟨hs, by rw [World.cell?_of_block (HOr.out.block b (World.block_lt_of_cell? w6 _ hc) (by omega))]; exact hc⟩))
      have HA7 := boxed hAr
      have hz7 := heap_lt hAr
      obtain ⟨⟨c0, c1, c2, c3, c4, c5, c6, c7⟩, ⟨d0, d1, d2, d3, d4, d5, d6, d7⟩, -⟩ := KF.out _ HB7.out
      have hK := HBS.out _ _ _ HP7.out
      clear hb67 HB6 HP6 HK6 HA6 hAr HRr HOr HR6 x1 x2 y0 y1 y2 HBS
      go_wp2_with fail
      refine hK.mono ?_
      rintro e w8 ⟨v8, c8, l8, em8, rfl, -, -, -, hb8⟩
      have HB8 := boxed (below_step HB7.out (Nat.le_refl _) hb8)
      have HP8 := boxed (HP7.out.keep (S' := fun b => b < w2.heap.size) (fun b i u hs hc => ⟨hs, hold hb8 hc⟩))
      have HK8 := boxed (HK7.out.below hb8)
      have HA8 := boxed ((hb8.block _ hz7).trans HA7.out)
      have hz8 := heap_lt HA8.out
      clear hb8 hK HB7 HP7 HK7 HA7 x0 c0 c1 c2 c3 c4 c5 c6 c7 d0 d1 d2 d3 d4 d5 d6 d7
      obtain ⟨⟨c0, c1, c2, c3, c4, c5, c6, c7⟩, ⟨d0, d1, d2, d3, d4, d5, d6, d7⟩, -⟩ := KF.out _ HB8.out
      have hK := HBR.out _ _ _ HP8.out
      clear HBR
      go_wp2_with fail
      refine hK.mono ?_
      rintro e w9 ⟨v9, c9, l9, em9, rfl, hB9, hne9, ho9, hb9⟩
      obtain ⟨e1, e2, e3⟩ := brk_one HBK.out hB9
      subst e1 e2 e3
      obtain ⟨a9, c9x, rfl⟩ := own_shape ho9
      rw [HL.out] at ho9
      have hl9 : l.length = i := by rw [← hlm, ← HL.out, List.length_map]
      rw [hl9] at ho9
      simp only [hl9]
      have hN9 := own_nat ho9 hlm
      have hA9 := (hb9.block _ hz8).trans HA8.out
      have HB9 := boxed (below_step HB8.out (Nat.le_refl _) hb9)
      have hK9 := HK8.out.below hb9
      have hz9 := heap_lt hA9
      have hz9' : w5.heap.size ≠ w9.heap.size := by omega
      obtain ⟨W6, hW6⟩ : ∃ W6, W6 = (w9.setCell ⟨w5.heap.size, 0, none⟩ (.slice (some ⟨q, 0, none⟩) i qc)).alloc (.cells #[.slice a9 i c9x, .int .i64 c, .bool em] 33) := ⟨_, rfl⟩
      have hzz : (w9.setCell ⟨w5.heap.size, 0, none⟩ (.slice (some ⟨q, 0, none⟩) i qc)).heap.size = w9.heap.size := sets_size w5.heap.size [.slice (some ⟨q, 0, none⟩) i qc] 0 w9
      have hA6 : (w9.alloc (.cells #[.slice a9 i c9x, .int .i64 c, .bool em] 33)).heap[w5.heap.size]? = some (.cells #[.slice (some ⟨g, 0, none⟩) i gc, .int .i64 c, .bool em] 33 (0, 0)) := by
        rw [Below.heap_alloc _ _ _ hz9]; exact hA9
      have hE6 : W6.heap[w5.heap.size]? = some (.cells #[.slice (some ⟨q, 0, none⟩) i qc, .int .i64 c, .bool em] 33 (0, 0)) := by
        rw [hW6, Below.heap_alloc _ _ _ (by rw [hzz]; exact hz9)]; exact arr_set _ hA9
      have hF6 : W6.heap[w9.heap.size]? = some (.cells #[.slice a9 i c9x, .int .i64 c, .bool em] 33 (0, 0)) := by
        rw [hW6, ← hzz]; exact heap_alloc_new _ _
      have hAL5 := HB5.out.size
      have HB10 : Box (Below w.heap.size w W6) := boxed (by
        have := (HB9.out.setCell (p := ⟨w5.heap.size, 0, none⟩) hAL5 (.slice (some ⟨q, 0, none⟩) i qc)).alloc (by rw [hzz]; exact HB9.out.size) (.cells #[.slice a9 i c9x, .int .i64 c, .bool em] 33)
        rw [← hW6] at this
        exact (KF.out _ this).2.2)
      have hK10 : NAt (fun _ => True) W6 (some ⟨q, 0, none⟩) L := hK9.keep (fun b i u hs hc => ⟨trivial, by
        rw [hW6]
        refine hold ((Below.refl _ _).alloc (Nat.le_refl _) _) ?_
        rw [World.cell?_setCell_far _ _ _ _ (by show w5.heap.size ≠ b; omega)]
        exact hc⟩)
      have hN10 : NAt (fun _ => True) W6 a9 L := hN9.keep (fun b i u hs hc => ⟨trivial, by
        rw [hW6]
        refine hold ((Below.refl _ _).alloc (Nat.le_refl _) _) ?_
        rw [World.cell?_setCell_far _ _ _ _ (by show w5.heap.size ≠ b; omega)]
        exact hc⟩)
      have hS := same9_any (fun _ => True) (fun _ => True) (some ⟨q, 0, none⟩) a9 L qc c9x c em W6 hK10 hN10 (by omega)
      rw [hlm] at hS
      obtain ⟨⟨f0, f1, f2⟩, -⟩ := cells3 hF6
      obtain ⟨⟨x0, x1, x2⟩, -⟩ := cells3 hE6
      obtain ⟨⟨p0, p1, p2⟩, r0, -⟩ := cells3 hA6
      clear hE6 hF6 hA6 hK10 hN10 hK9 hN9 ho9 hB9 hne9 hb9 hA9 HB9 HK8 HP8 HB8 HA8 hK hzz c0 c1 c2 c3 c4 c5 c6 c7 d0 d1 d2 d3 d4 d5 d6 d7
      subst hW6
      go_wp2_with fail
      refine hS.mono ?_
      rintro e w11 ⟨rfl, hb11⟩
      have HB11 := boxed (below_step HB10.out (Nat.le_refl _) hb11)
      clear hb11 hS
      go_wp2_with fail
      go_ret
      exact ⟨rfl, HB11.out⟩

set_option maxRecDepth 100000 in
theorem lifted (os : Os) (started : os.Started) (H : Type) (enc : TypeId × Value → H) :
    ReturnsInHanded {} Tryz.checked os 3 .any (Rows.breaksAgainSpec.pre6 enc Tryz.prog Tryz.f3 Rows.breaksAgainRow.domain false) (Rows.breaksAgainSpec.post enc Tryz.prog Tryz.f3 false true false false) := by
  refine returnsInHanded_of_change_sized (C := Tryz.checked) own started (by kernel_rfl) Tryz.func3
    (ChangeSpec.witness6 (enc := enc) (C := Tryz.checked) false ⟨#[], #[.slice none 0 0, .agg #[.int .i64 0, .int .i64 0, .int .i64 0, .int .i64 0, .int .i64 0, .int .i64 0, .int .i64 0, .int .i64 0], .agg #[.int .i64 0, .int .i64 0, .int .i64 0, .int .i64 0, .int .i64 0, .int .i64 0, .int .i64 0, .int .i64 0]], []⟩ 8 (by kernel_rfl) (by kernel_rfl) (by kernel_rfl) (by kernel_rfl)) ?_
  intro W base args ds gs before hval0 hW hcnd hsz0 _
  have hval : ∀ (j : Nat) t v, Tryz.f3.params[j]? = some t → args[j]? = some v → Value.okWide Tryz.prog W .any base t v := hval0
  have hsz : (DataW.weightsEach Tryz.prog (Tryz.f3.params.toList ++ Rows.breaksAgainSpec.plain.varTypes Tryz.prog) (ds ++ gs)).all (· ≤ reachBytes) = true := hsz0
  have hW' := hW
  obtain ⟨p, q, hA0, hV, rfl, hfz, hnd⟩ := hW
  have hA : DataW.TrodAll enc Tryz.prog W 0 (fun _ => true) true Tryz.f3.params.toList args.toList ds p := hA0
  rw [Tryz.params3] at hA hval hsz
  obtain ⟨v0, vs0, d0, ds0, p0, q0, hargs, rfl, rfl, h0, r0⟩ := trodAll_cons hA
  obtain ⟨v1, vs1, d1, ds1, p1, q1, rfl, rfl, rfl, h1, r1⟩ := trodAll_cons r0
  obtain ⟨v2, vs2, d2, ds2, p2, q2, rfl, rfl, rfl, h2, r2⟩ := trodAll_cons r1
  obtain ⟨rfl, rfl, rfl⟩ := trodAll_nil r2
  obtain rfl : args = #[v0, v1, v2] := by cases args; simp_all
  obtain ⟨rfl, rfl⟩ := trodVars_none hV
  obtain ⟨ao0, n0, cap0, rfl⟩ := okWide_slice Tryz.underlying22 (hval 0 22 v0 rfl rfl)
  have k0 := h0
  have lt0 : ∀ x ∈ p0, x.block < W.heap.size := by obtain ⟨m, hm⟩ := k0; exact DataW.trod_lt m _ _ _ hm
  obtain ⟨hn0, I0, hI0⟩ : n0 ≤ maxLen ∧ ∃ I, ItsAt (fun _ => True) W ao0 n0 I := by
    obtain ⟨fuel, hf⟩ := k0
    exact open_items hf
  have k1 := h1
  have lt1 : ∀ x ∈ p1, x.block < W.heap.size := by obtain ⟨m, hm⟩ := k1; exact DataW.trod_lt m _ _ _ hm
  obtain ⟨wd1, s1, rfl, hs1⟩ : ∃ (z : Int) (x : Stg), v1 = setV z x ∧ I64 z ∧ I64 x.t ∧ I64 x.l ∧ I64 x.a ∧ I64 x.d ∧ I64 x.z ∧ I64 x.o ∧ I64 x.i := by
    obtain ⟨fuel, hf⟩ := k1
    exact setting_value hf
  have k2 := h2
  have lt2 : ∀ x ∈ p2, x.block < W.heap.size := by obtain ⟨m, hm⟩ := k2; exact DataW.trod_lt m _ _ _ hm
  obtain ⟨wd2, s2, rfl, hs2⟩ : ∃ (z : Int) (x : Stg), v2 = setV z x ∧ I64 z ∧ I64 x.t ∧ I64 x.l ∧ I64 x.a ∧ I64 x.d ∧ I64 x.z ∧ I64 x.o ∧ I64 x.i := by
    obtain ⟨fuel, hf⟩ := k2
    exact setting_value hf
  clear hA0 hval0
  refine (walk W ao0 n0 cap0 I0 hn0 hI0 wd1 s1 hs1 wd2 s2 hs2).mono fun e W' ⟨he, hg⟩ => ?_
  subst he
  exact ⟨_, rfl, _, _, _, [], _, [], hW', trodAll_mk1 (shut_bool Tryz.underlying4 _), (trodAll_cons_mk (Below.trod laidOut (by kernel_rfl) (of_decide_eq_true (by kernel_rfl)) k0 hg lt0) (trodAll_cons_mk (Below.trod laidOut (by kernel_rfl) (of_decide_eq_true (by kernel_rfl)) k1 hg lt1) (trodAll_cons_mk (Below.trod laidOut (by kernel_rfl) (of_decide_eq_true (by kernel_rfl)) k2 hg lt2) trodAll_mk0))), rfl, hg.frame _, fun h => by cases h⟩

theorem proved : Rows.BreaksAgainSaid :=
  OpenClaim.holds_of_wide 3 Tryz.f3 rfl rfl rfl rfl rfl rfl rfl ⟨rfl, rfl, rfl, rfl, rfl⟩ rfl rfl rfl rfl rfl (by kernel_rfl) Tryz.func3 (by kernel_rfl)
    (of_decide_eq_true (by kernel_rfl)) (by unfold Func.isWrapper; first | (rw [if_pos (by decide +kernel)]; kernel_rfl) | (rw [if_neg (by decide +kernel)]; exact ⟨rfl, rfl⟩))
    (fun os started H enc _ => lifted os started H enc)
#print axioms proved
end Go.Proofs.YtkmeeblkckfepabGreat.breaksAgain
