/-
  For all lines, heights, settings and calls RepageBack answers true: lines that are replaced and put back leave the pages that there were, and a copy goes its own way.
  No condition besides the statement's own.
-/
import Derived.Test.YtdpjaafdpgkclaaRows
import Derived.WalkKit
import Derived.ProofKit
import Derived.OpenShut
import Derived.SizedLaws
import Derived.ShutString
import Derived.ChangeOld
import Derived.Below
import Derived.Test.YtdpjaafdpgkclaaYd
import Derived.Deep.RegionWith
import Derived.Deep.RegionHeld3
namespace Go.Proofs.Ytdpjaafdpgkclaa.repageBack
open Go.ChangeShapes Go.WideShapes Go.ChangeAt Go.RowKit
open Go.ChangeMaps (open_string shut_string)
set_option linter.unusedVariables false
set_option linter.unusedSimpArgs false

theorem own : ownKnob Try.prog.godebug = none := by kernel_rfl
theorem laidOut : laidOutB Try.prog = true := by kernel_rfl

set_option maxRecDepth 100000 in
set_option maxHeartbeats 16000000 in
theorem walk (w : World) (ao0 : Option Addr) (n0 cap0 : Nat) (z0 : Int) (s0 : Stg) (F0 : Nat → Slt) (hn0 : (n0 ≤ maxLen ∧ n0 ≤ cap0) ∧ (ao0 = none → cap0 = 0)) (hF0 : SltsAt (fun _ => True) w ao0 n0 F0) (hs0 : I64 z0 ∧ I64 s0.t ∧ I64 s0.l ∧ I64 s0.a ∧ I64 s0.d ∧ I64 s0.z ∧ I64 s0.o ∧ I64 s0.i) (o1 : Op3) (ho1 : OpIs w o1) :
    Calls Try.prog 7 #[rbv ao0 n0 cap0 z0 s0, o1.val] w fun e w' => e = .returned (.bool true) ∧ Below w.heap.size w w' := by
  obtain ⟨R, hR⟩ : ∃ R : Bool, (R = true ↔ Rts F0 n0 0) := by
    by_cases c : Rts F0 n0 0
    · exact ⟨true, by simp [c]⟩
    · exact ⟨false, by simp [c]⟩
  obtain ⟨RC, hRC⟩ : ∃ R : Bool, (R = true ↔ Rts o1.C o1.m 0) := by
    by_cases c : Rts o1.C o1.m 0
    · exact ⟨true, by simp [c]⟩
    · exact ⟨false, by simp [c]⟩
  have hN : (n0 : Int) ≤ 9223372036854775807 := by have := hn0.1.1; unfold maxLen at this; omega
  have hcap := hn0.1.2
  have hno0 := hn0.2
  have HOp := boxed ho1
  obtain ⟨l0, l1, l2, l3⟩ := laid2 w (.cells (rbc ao0 n0 cap0 z0 s0) 26) (.cells #[.int .i64 o1.f, .int .i64 o1.d, .slice o1.bo o1.m o1.mc, .int .i64 o1.h] 35)
  obtain ⟨W0, hW0⟩ : ∃ W0, (w.alloc (.cells (rbc ao0 n0 cap0 z0 s0) 26)).alloc (.cells #[.int .i64 o1.f, .int .i64 o1.d, .slice o1.bo o1.m o1.mc, .int .i64 o1.h] 35) = W0 := ⟨_, rfl⟩
  rw [hW0] at l0 l1 l2 l3
  have HZ0 := boxed l3
  have HXP : Box (∀ W, Below W0.heap.size W0 W → W.heap[w.heap.size]? = some (.cells (rbc ao0 n0 cap0 z0 s0) 26 (0, 0))) := boxed (fun W hb => (hb.block _ (by omega)).trans l0)
  have HX1 : Box (∀ W, Below W0.heap.size W0 W → (W.cell? ⟨w.heap.size + 1, 0, none⟩ = some (.int .i64 o1.f) ∧ W.cell? ⟨w.heap.size + 1, 1, none⟩ = some (.int .i64 o1.d) ∧ W.cell? ⟨w.heap.size + 1, 2, none⟩ = some (.slice o1.bo o1.m o1.mc) ∧ W.cell? ⟨w.heap.size + 1, 3, none⟩ = some (.int .i64 o1.h))) := boxed (fun W hb => by
    have hc := fun i => cell_of_row W (w.heap.size + 1) i _ _ _ ((hb.block _ (by omega)).trans l1)
    exact ⟨hc 0, hc 1, hc 2, hc 3⟩)
  have HB0 := boxed l2
  have HW0 := boxed hW0
  have HS0 := boxed (fun W (hb : Below W0.heap.size W0 W) => hF0.here.low (below_step HB0.out (Nat.le_refl _) hb))
  have HC0 := boxed (fun W (hb : Below W0.heap.size W0 W) => ho1.C.low (below_step HB0.out (Nat.le_refl _) hb))
  unfold rbc at HW0
  unfold rbv Op3.val
  clear l0 l1 l2 l3 hW0 hF0
  by_cases ht : trB n0 R z0 s0 = true
  · obtain ⟨hl, hRt, hE⟩ : n0 ≤ 150 ∧ Rts F0 n0 0 ∧ ckE z0 s0 = 0 := by
      unfold trB at ht
      simp only [Bool.and_eq_true, decide_eq_true_eq] at ht
      exact ⟨ht.1.1, hR.1 ht.1.2, (ckb_iff z0 s0).1 ht.2⟩
    have HBg := boxed (fun W (hb : Below W0.heap.size W0 W) => begun_ok _ ao0 n0 cap0 F0 z0 s0 hRt W (HS0.out W hb) hcap hl hE)
    have HMy := boxed (fun (lo : Option Addr) W (h1 : SltsAt (fun b => b < w.heap.size) W ao0 n0 F0) (h2 : SltsAt (fun b => b < w.heap.size) W o1.bo o1.m o1.C) (hm : o1.m ≤ 1000) => may13_any ⟨F0, n0, s0.o, s0.i, z0⟩ s0 _ _ ao0 o1.bo cap0 o1.m o1.mc o1.C RC hRC o1.f o1.d HOp.out.f HOp.out.d W h1 h2 (by simp only; omega) hm)
    simp only at HMy
    unfold rbv at HBg HMy
    have HRC := boxed hRC
    clear hR hRC ht hRt hE hs0 hn0 ho1
    by_cases hh : o1.h = 0
    · have HHh := boxed hh
      clear hh
      by_cases hm : o1.m ≤ 60
      · have t1 : decide ((60 : Int) < (o1.m : Int)) = false := decide_eq_false (by omega)
        have t1' : decide (60 < o1.m) = false := decide_eq_false (by omega)
        have hmy := fun W h1 h2 => HMy.out ao0 W h1 h2 (by omega)
        cases hwv : wh ⟨F0, n0, s0.o, s0.i, z0⟩ o1.f o1.d && RC with
        | false =>
          rw [hwv] at hmy
          clear hwv HRC HMy
          go_enter Try.func7, Try.ntmps7
          go_upto_region 1 with fail
          rw [HW0.out]
          go_wp2_with fail
          refine (awake_any _).mono ?_
          rintro e w1 ⟨rfl, hb1⟩
          have HB1 := boxed hb1
          obtain ⟨⟨x0, x1, x2, x3, x4, x5, x6, x7, x8⟩, -⟩ := cells9 (HXP.out w1 hb1)
          clear hb1
          go_wp2_with fail
          refine (HBg.out _ HB1.out).mono ?_
          rintro e w2 ⟨p, ao, cap, so, sc, J, rfl, hBk, hb2⟩
          have HB2 := boxed (below_step HB1.out (Nat.le_refl _) hb2)
          clear x0 x1 x2 x3 x4 x5 x6 x7 x8 hb2 hBk HBg
          obtain ⟨k0, k1, k2⟩ := laid1 w2 (.cells (rbc ao0 n0 cap0 z0 s0) 31)
          obtain ⟨w3, hw3⟩ : ∃ w3, w2.alloc (.cells (rbc ao0 n0 cap0 z0 s0) 31) = w3 := ⟨_, rfl⟩
          rw [hw3] at k0 k1 k2
          have HW3 := boxed hw3
          unfold rbc at HW3
          have HB3 := boxed (below_step HB2.out (Nat.le_refl _) k1)
          obtain ⟨⟨x0, x1, x2, x3, x4, x5, x6, x7, x8⟩, -⟩ := cells9 k0
          obtain ⟨p0, p1, p2, p3⟩ := HX1.out w3 HB3.out
          rw [HHh.out] at p3
          have hmy3 := hmy w3 (HS0.out _ HB3.out) (HC0.out _ HB3.out)
          clear hw3 k0 k1 k2 hmy
          go_upto_region 4 with fail
          rw [HW3.out]
          go_wp2_with fail
          refine hmy3.mono ?_
          rintro e w4 ⟨rfl, hb4⟩
          have HB4 := boxed (below_step HB0.out (Nat.le_refl _) (below_step HB3.out (Nat.le_refl _) hb4))
          clear hb4 hmy3 x0 x1 x2 x3 x4 x5 x6 x7 x8 p0 p1 p2 p3
          go_wp2_with fail
          go_ret
          exact ⟨rfl, HB4.out⟩
        | true =>
          rw [hwv] at hmy
          obtain ⟨hwv1, hwv2⟩ : wh ⟨F0, n0, s0.o, s0.i, z0⟩ o1.f o1.d = true ∧ RC = true := by simpa using hwv
          have hRCt := HRC.out.1 hwv2
          obtain ⟨f, d, hfe, hde, hfd, hsf, hsd⟩ := wh_nat hwv1
          have hfd' : f + d ≤ n0 := hfd
          clear hwv HRC HMy hwv1 hwv2
          rw [hfe, hde] at hmy HX1 HW0 ⊢
          go_enter Try.func7, Try.ntmps7
          go_upto_region 1 with fail
          rw [HW0.out]
          go_wp2_with fail
          refine (awake_any _).mono ?_
          rintro e w1 ⟨rfl, hb1⟩
          have HB1 := boxed hb1
          obtain ⟨⟨x0, x1, x2, x3, x4, x5, x6, x7, x8⟩, -⟩ := cells9 (HXP.out w1 hb1)
          clear hb1
          go_wp2_with fail
          refine (HBg.out _ HB1.out).mono ?_
          rintro e w2 ⟨p, ao, cap, so, sc, J, rfl, hBk, hb2⟩
          have HB2 := boxed (below_step HB1.out (Nat.le_refl _) hb2)
          have HBk := boxed hBk
          clear x0 x1 x2 x3 x4 x5 x6 x7 x8 hb2 hBk HBg
          obtain ⟨k0, k1, k2⟩ := laid1 w2 (.cells (rbc ao0 n0 cap0 z0 s0) 31)
          obtain ⟨w3, hw3⟩ : ∃ w3, w2.alloc (.cells (rbc ao0 n0 cap0 z0 s0) 31) = w3 := ⟨_, rfl⟩
          rw [hw3] at k0 k1 k2
          have HW3 := boxed hw3
          unfold rbc at HW3
          have HB3 := boxed (below_step HB2.out (Nat.le_refl _) k1)
          have HBk3 := boxed (HBk.out.below k1)
          have HK0 := boxed k0
          have HK2 := boxed k2
          have HL2 := boxed HBk.out.lt
          obtain ⟨⟨x0, x1, x2, x3, x4, x5, x6, x7, x8⟩, -⟩ := cells9 k0
          obtain ⟨p0, p1, p2, p3⟩ := HX1.out w3 HB3.out
          rw [HHh.out] at p3
          have hmy3 := hmy w3 (HS0.out _ HB3.out) (HC0.out _ HB3.out)
          clear hw3 k0 k1 k2 hmy
          go_upto_region 4 with fail
          rw [HW3.out]
          go_wp2_with fail
          refine hmy3.mono ?_
          rintro e w4 ⟨rfl, hb4⟩
          have HB4 := boxed (below_step HB3.out (Nat.le_refl _) hb4)
          have HBk4 := boxed (HBk3.out.below hb4)
          have HK4 := boxed ((hb4.block _ (heap_lt HK0.out)).trans HK0.out)
          have hz4 := hb4.size
          clear hb4 hmy3 x0 x1 x2 x3 x4 x5 x6 x7 x8 p0 p1 p2 p3 HBk3 HBk HK0
          obtain ⟨D, hD⟩ : ∃ D : Dc, Dc.mk F0 n0 s0.o s0.i z0 = D := ⟨_, rfl⟩
          have hDn : D.n = n0 := by rw [← hD]
          have hDF : D.F = F0 := by rw [← hD]
          rw [hD] at HBk4
          replace hfd : f + d ≤ D.n := by rw [← hD]; exact hfd
          replace hsf : f = D.n ∨ (D.F f).i = 0 := by rw [← hD]; exact hsf
          replace hsd : f + d = D.n ∨ (D.F (f + d)).i = 0 := by rw [← hD]; exact hsd
          have hn150 : D.n ≤ 150 := by omega
          have hst := starts_any HBk4.out
          have hJn := HBk4.out.jle
          have hlt4 := HBk4.out.lt
          have HPs := boxed HBk4.out.pgs
          obtain ⟨hRG, hbk1, hbk2, hbk3⟩ := back_ok (m := o1.m) (C := o1.C) HBk4.out.rts hRCt hfd hsf hsd
          have HDn := boxed hDn
          have HDF := boxed hDF
          have HSm := boxed (its_small HBk4.out)
          clear hD hDn hDF
          go_wp2_with fail
          refine hst.mono ?_
          rintro e w5 ⟨a5, k5, rfl, ho5, hb5⟩
          have HB5 := boxed (below_step HB4.out (Nat.le_refl _) hb5)
          have HBk5 := boxed (HBk4.out.below hb5)
          have hz45 := hb5.size
          have HO5 := boxed (own_nat ho5 (D.its_len J))
          have HP5 := boxed ((hb5.block _ (heap_lt HK4.out)).trans HK4.out)
          have hcp := copy_any HBk5.out
          clear hst ho5 hb5 HBk4 HK4
          go_wp2_with fail
          refine hcp.mono ?_
          rintro e w6 ⟨p', aoC, capC, soC, scC, rfl, hBkC, hb6⟩
          have HB6 := boxed (below_step HB5.out (Nat.le_refl _) hb6)
          have hBk6 := HBk5.out.below hb6
          have HBkC := boxed hBkC
          have hltC := hBkC.lt
          have hz56 := hb6.size
          have HO6 := boxed (HO5.out.below hb6)
          have hP6 := (hb6.block _ (heap_lt HP5.out)).trans HP5.out
          obtain ⟨p0, p1, p2, p3⟩ := HX1.out w6 HB6.out
          obtain ⟨⟨y0, -⟩, -⟩ := cells9 hP6
          obtain ⟨gl, hgl, hgn, hgS⟩ := part_mid (fun b => b < w.heap.size) w6 ao0 n0 cap0 f d F0 (HS0.out w6 HB6.out) hcap hfd' ((f : Int) + (d : Int)) (by omega) hno0
          have hm0 := World.ownsRow_made (base := w6.heap.size) (e := 69) (size := 4) w6 #[] 0 (Nat.le_refl _) (Nat.zero_le _) rfl
          have hB6a := (laid1 w6 (.cells #[] 69)).2.1
          have hgS7 := hgS _ (HS0.out _ (below_step HB6.out (Nat.le_refl _) hB6a))
          have p0' := hold hB6a p0
          have p1' := hold hB6a p1
          have y0' := hold hB6a y0
          have HBk6 := boxed hBk6
          have HP6 := boxed hP6
          clear hcp hb6 hBkC HBk5 HP5 HO5 hBk6 hP6
          go_wp2_with (first | (at_builtin; refine wpList_appW rfl _ _ rfl w6.heap.size _ 0 (fun k => F0 (f + k)) rfl hm0 gl d (cap0 - f) rfl (fun k => F0 (f + k)) _ hgS7 hgn (by omega) (by simp) ?_))
          intro ag kg w7 hg7 hg7g
          have HG7 : Box (w7.ownsRow w6.heap.size 69 4 (.slice ag d kg) d (scs (fun k => F0 (f + k)) d)) := boxed (by
            have e0 : scs (fun k => F0 (f + k)) d = scs (put (fun k => F0 (f + k)) 0 0 d (fun k => F0 (f + k))) d := scs_like d (fun k hk => by have := put_in (F := fun k => F0 (f + k)) (f := 0) (g := 0) (m := d) (C := fun k => F0 (f + k)) hk; rw [Nat.zero_add] at this; exact this.symm)
            rw [e0]
            simpa using hg7.out)
          have hb7 : Below w6.heap.size w6 w7 := ((Below.refl w6.heap.size w6).alloc (Nat.le_refl _) _).grown hg7g.out (by simp) (by intro k hk; simp [Value.ownBlock] at hk; omega)
          have HB7 := boxed (below_step HB6.out (Nat.le_refl _) hb7)
          have hBk7 := HBk6.out.below hb7
          have HBkC7 := boxed (HBkC.out.below hb7)
          have HO7 := boxed (HO6.out.below hb7)
          have HP7 := boxed ((hb7.block _ (heap_lt HP6.out)).trans HP6.out)
          have hz67 := hb7.size
          obtain ⟨q, hq⟩ := upto_some (D.its J) (f : Int) (its_rise D J)
          have hz1 : w.heap.size + 2 ≤ w1.heap.size := by have := HB1.out.size; have := HZ0.out; omega
          have hrep := rep13_any hBk7 (fun b => b < w.heap.size) o1.bo o1.m o1.mc o1.C (HC0.out w7 HB7.out) (fun b hb => ⟨by have := (hlt4 p (.inl rfl)).1; omega, fun e => by have := (hlt4 b (.inr (.inl e.symm))).1; omega⟩) hRCt (by omega) HOp.out.mc f d hfd hsf hsd (by omega) q hq
          have hckf := hBk7.dc
          clear p0 p1 p2 p3 y0 p0' p1' y0' hm0 hB6a hgS7 hg7 hg7g hb7 HBk6 HP6 HBkC HO6 hgl hgn hgS hBk7 hq
          obtain ⟨p0, p1, p2, p3⟩ := HX1.out w7 HB7.out
          go_wp2_with fail
          refine hrep.mono ?_
          rintro e w8 ⟨bl, J', ao', cap', so', sc', rfl, hBk8, -, -, hFr, hNl, -⟩
          have hz7 : w1.heap.size ≤ w7.heap.size := by have := (hlt4 p (.inl rfl)); omega
          have hb8 : Below w1.heap.size w7 w8 := hFr.below (hlt4 p (.inl rfl)).1 (fun k e => (hlt4 k (.inr (.inl e))).1) hz7
          have HB8 := boxed (HB7.out.trans (hb8.mono HB1.out.size))
          have hz78 := hFr.size
          have hpl4 := (hlt4 p (.inl rfl)).2
          have hll4 : ∀ b, (Value.slice ao D.n cap).ownBlock = some b → b < w4.heap.size := fun b e => (hlt4 b (.inr (.inl e))).2
          have HO8 := boxed (nat_far (S' := fun b => w4.heap.size ≤ b ∧ b < w7.heap.size) (HO7.out.keep (S' := fun b => w4.heap.size ≤ b ∧ b < w7.heap.size) (fun b i u hs hc => ⟨⟨hs, by have := World.block_lt_of_cell? w7 _ hc; simpa using this⟩, hc⟩)) hFr (fun b hb => ⟨⟨by omega, fun e => by have := hll4 b e.symm; omega⟩, hb⟩))
          have hBkC8 := HBkC7.out.keep (w' := w8) (fun b hb => hFr.block b (HBkC7.out.lt b hb).2 (by have := (hltC b hb).1; omega) (fun e => by have := hll4 b e.symm; have := (hltC b hb).1; omega))
          have hgI : ∀ i, i < d → I64 ((fun k => F0 (f + k)) i).h ∧ I64 ((fun k => F0 (f + k)) i).i ∧ I64 ((fun k => F0 (f + k)) i).c := fun i hi => by
            have k1 := hckf.ok (f + i) (by omega)
            have k2 := hckf.n
            rw [HDF.out] at k1
            unfold SltOk at k1
            unfold I64
            simp only
            omega
          have HG8 := boxed (((own_slts HG7.out hgI).keep (S' := fun b => w6.heap.size ≤ b ∧ b < w7.heap.size) (fun b i u hs hc => ⟨⟨hs.1, by have := World.block_lt_of_cell? w7 _ hc; simpa using this⟩, hc⟩)).far (S' := fun b => w6.heap.size ≤ b ∧ b < w7.heap.size) hFr (fun b hb => ⟨⟨by omega, fun e => by have := hll4 b e.symm; omega⟩, hb⟩))
          have hkg := own_room HG7.out
          have hP2w : w2.heap.size < w7.heap.size := heap_lt HP7.out
          have HP8 : Box (w8.heap[w2.heap.size]? = _) := boxed ((hFr.block _ hP2w (by have := (HL2.out p (.inl rfl)).2; omega) (fun e => by have := (HL2.out _ (.inr (.inl ((own_blk ao _ cap D.n cap).trans e.symm)))).2; omega)).trans HP7.out)
          have hstC := starts_any hBkC8
          have HBk8 := boxed hBk8
          have HNl := boxed hNl
          clear p0 p1 p2 p3 hFr hb8 hrep hBk8 hBkC8 HBkC7 HO7 HG7 HP7 hNl hckf
          go_wp2_with fail
          refine hstC.mono ?_
          rintro e w9 ⟨a9, k9, rfl, ho9, hb9⟩
          have HB9 := boxed (below_step HB8.out (Nat.le_refl _) hb9)
          have hz89 := hb9.size
          have hsm := same_yes _ _ a9 a5 J k9 k5 (D.its J) (D.its_len J) w9 (own_nat ho9 (D.its_len J)) (HO8.out.below hb9) (by omega) HSm.out
          have HBk9 := boxed (HBk8.out.below hb9)
          have HO9 := boxed (HO8.out.below hb9)
          have HG9 := boxed (HG8.out.below hb9)
          have HP9 := boxed ((hb9.block _ (heap_lt HP8.out)).trans HP8.out)
          clear ho9 hb9 hstC HBk8 HO8 HG8 HP8
          go_wp2_with fail
          refine hsm.mono ?_
          rintro e w10 ⟨rfl, hb10⟩
          have HB10 := boxed (below_step HB9.out (Nat.le_refl _) hb10)
          have hBk10 := HBk9.out.below hb10
          have HO10 := boxed (HO9.out.below hb10)
          have hG10 := HG9.out.below hb10
          have HP10 := boxed ((hb10.block _ (heap_lt HP9.out)).trans HP9.out)
          have hz910 := hb10.size
          have hlt10 := hBk10.lt
          obtain ⟨q2, hq2⟩ := upto_some ((D.put f d o1.m o1.C).its J') (f : Int) (its_rise _ J')
          obtain ⟨p0, p1, p2, p3⟩ := HX1.out w10 HB10.out
          have hn2 : (D.put f d o1.m o1.C).n - o1.m + d ≤ 1000 := by have : (D.put f d o1.m o1.C).n = D.n - d + o1.m := rfl; omega
          have hrep2 := rep13_any hBk10 (fun b => w6.heap.size ≤ b ∧ b < w7.heap.size) ag d kg (fun k => F0 (f + k)) hG10 (fun b hb => ⟨by omega, fun e => by
            rcases HNl.out b e.symm with e1 | e1
            · have := hll4 b e1.symm; omega
            · omega⟩) (by rw [← HDF.out]; exact hRG) (by omega) hkg f o1.m hbk1 hbk2 hbk3 hn2 q2 hq2
          clear hb10 hsm HBk9 HO9 HG9 HP9 hG10 hq2 hBk10
          go_wp2_with fail
          refine hrep2.mono ?_
          rintro e w11 ⟨bl2, J2, ao2, cap2, so2, sc2, rfl, hBk11, -, -, hFr2, -, -⟩
          have hz10 : w1.heap.size ≤ w10.heap.size := by omega
          have hl10 : ∀ b, (Value.slice ao' (D.put f d o1.m o1.C).n cap').ownBlock = some b → w1.heap.size ≤ b ∧ (b < w4.heap.size ∨ w7.heap.size ≤ b) := fun b e => ⟨(hlt10 b (.inr (.inl e))).1, by
            rcases HNl.out b e with e1 | e1
            · exact .inl (hll4 b e1.symm)
            · exact .inr e1⟩
          have hb11 : Below w1.heap.size w10 w11 := hFr2.below (hlt4 p (.inl rfl)).1 (fun k e => (hl10 k e).1) hz10
          have HB11 := boxed (HB10.out.trans (hb11.mono HB1.out.size))
          have HO11 := boxed (nat_far (S' := fun _ => True) HO10.out hFr2 (fun b hb => ⟨⟨by omega, fun e => by have := (hl10 b e.symm).2; omega⟩, trivial⟩))
          have hP2x : w2.heap.size < w10.heap.size := heap_lt HP10.out
          have HP11 : Box (w11.heap[w2.heap.size]? = _) := boxed ((hFr2.block _ hP2x (by have := (HL2.out p (.inl rfl)).2; omega) (fun e => by
            rcases HNl.out _ e.symm with e1 | e1
            · have := (HL2.out _ (.inr (.inl ((own_blk ao _ cap D.n cap).trans e1.symm)))).2; omega
            · omega)).trans HP10.out)
          have HBk11 : Box (BkC w11 w1.heap.size p ao2 cap2 so2 sc2 ((D.put f d o1.m o1.C).put f o1.m d (fun k => D.F (f + k))) s0 J2) := boxed (by rw [HDF.out]; exact hBk11)
          obtain ⟨v1, v2, rfl, v4⟩ := back_same (m := o1.m) (C := o1.C) hfd HPs.out HBk11.out.pgs
          have HV2 := boxed v2
          have HV4 := boxed v4
          have HV1 := boxed v1
          clear p0 p1 p2 p3 hFr2 hb11 hrep2 hBk11 HO10 HP10 v1 v2 v4
          have HD11 : Box (Below w11.heap.size w11 w11.drew) := boxed (Below.refl _ _).drew
          have HX9 : Box (∀ W, Below w11.heap.size w11 W → W.cell? ⟨w2.heap.size, 0, none⟩ = some (.slice ao0 n0 cap0)) := boxed (fun W hb => hold hb (cells9 HP11.out).1.1)
          go_wp2_with fail
          go_region_held3 (fun W => W.cell? ⟨w2.heap.size, 0, none⟩ = some (.slice ao0 n0 cap0))
            (first | with_reducible exact HX9.out _ HD11.out | with_reducible exact HX9.out _ HB12.out | with_reducible exact HX9.out _ HB13.out | with_reducible exact HX9.out _ HB14.out | with_reducible exact HX9.out _ HB15.out)
            (first
            | (go_at_call 12; refine (starts_any (HBk11.out.below HD11.out)).mono ?_; rintro e w12 ⟨a12, k12, rfl, ho12, hb12⟩; have HB12 := boxed (below_step HD11.out (Nat.le_refl _) hb12); have HO12 := boxed ho12; clear ho12 hb12)
            | (go_at_call 11; refine (same_yes _ _ a12 a5 J2 k12 k5 (D.its J2) (D.its_len J2) w12 (by have := HO12.out; rw [HV4.out] at this; exact own_nat this (D.its_len J2)) (HO11.out.below HB12.out) (by omega) HSm.out).mono ?_; rintro e w13 ⟨rfl, hb13⟩; have HB13 := boxed (below_step HB12.out (Nat.le_refl _) hb13); clear hb13)
            | (go_at_call 15; refine (slots_any (HBk11.out.below HB13.out)).mono ?_; rintro e w14 ⟨a14, k14, rfl, ho14, hb14⟩; have HB14 := boxed (below_step HB13.out (Nat.le_refl _) hb14); have HO14 := boxed ((own_slts ho14 HBk11.out.i64).like (fun k hk => HV2.out k)); rw [HV1.out, HDn.out, HDF.out] at HO14; rw [HV1.out, HDn.out]; clear ho14 hb14)
            | (go_at_call 14; refine (same13_yes _ _ a14 ao0 n0 k14 cap0 F0 w14 HO14.out (HS0.out _ (below_step HB11.out (Nat.le_refl _) HB14.out)) (by omega)).mono ?_; rintro e w15 ⟨rfl, hb15⟩; have HB15 := boxed (below_step HB14.out (Nat.le_refl _) hb15); clear hb15))
          all_goals
            have HF := boxed (below_step HB0.out (Nat.le_refl _) (below_step HB11.out (Nat.le_refl _) HB15.out))
            go_wp2_with fail
            go_ret
            exact ⟨rfl, HF.out⟩
      · have t1 : decide ((60 : Int) < (o1.m : Int)) = true := decide_eq_true (by omega)
        have t1' : decide (60 < o1.m) = true := decide_eq_true (by omega)
        clear HRC HMy
        go_enter Try.func7, Try.ntmps7
        go_upto_region 1 with fail
        rw [HW0.out]
        go_wp2_with fail
        refine (awake_any _).mono ?_
        rintro e w1 ⟨rfl, hb1⟩
        have HB1 := boxed hb1
        obtain ⟨⟨x0, x1, x2, x3, x4, x5, x6, x7, x8⟩, -⟩ := cells9 (HXP.out w1 hb1)
        clear hb1
        go_wp2_with fail
        refine (HBg.out _ HB1.out).mono ?_
        rintro e w2 ⟨p, ao, cap, so, sc, J, rfl, hBk, hb2⟩
        have HB2 := boxed (below_step HB1.out (Nat.le_refl _) hb2)
        clear x0 x1 x2 x3 x4 x5 x6 x7 x8 hb2 hBk HBg
        obtain ⟨k0, k1, k2⟩ := laid1 w2 (.cells (rbc ao0 n0 cap0 z0 s0) 31)
        obtain ⟨w3, hw3⟩ : ∃ w3, w2.alloc (.cells (rbc ao0 n0 cap0 z0 s0) 31) = w3 := ⟨_, rfl⟩
        rw [hw3] at k0 k1 k2
        have HW3 := boxed hw3
        unfold rbc at HW3
        have HB3 := boxed (below_step HB2.out (Nat.le_refl _) k1)
        have HB4 := boxed (below_step HB0.out (Nat.le_refl _) HB3.out)
        obtain ⟨p0, p1, p2, p3⟩ := HX1.out w3 HB3.out
        rw [HHh.out] at p3
        clear hw3 k0 k1 k2
        go_upto_region 4 with fail
        rw [HW3.out]
        go_wp2_with fail
        go_ret
        exact ⟨rfl, HB4.out⟩
    · have t0 : (o1.h == 0) = false := by simpa using hh
      have t0' : (o1.h != 0) = true := by simpa using hh
      clear HRC HMy
      go_enter Try.func7, Try.ntmps7
      go_upto_region 1 with fail
      rw [HW0.out]
      go_wp2_with fail
      refine (awake_any _).mono ?_
      rintro e w1 ⟨rfl, hb1⟩
      have HB1 := boxed hb1
      obtain ⟨⟨x0, x1, x2, x3, x4, x5, x6, x7, x8⟩, -⟩ := cells9 (HXP.out w1 hb1)
      clear hb1
      go_wp2_with fail
      refine (HBg.out _ HB1.out).mono ?_
      rintro e w2 ⟨p, ao, cap, so, sc, J, rfl, hBk, hb2⟩
      have HB2 := boxed (below_step HB1.out (Nat.le_refl _) hb2)
      clear x0 x1 x2 x3 x4 x5 x6 x7 x8 hb2 hBk HBg
      obtain ⟨k0, k1, k2⟩ := laid1 w2 (.cells (rbc ao0 n0 cap0 z0 s0) 31)
      obtain ⟨w3, hw3⟩ : ∃ w3, w2.alloc (.cells (rbc ao0 n0 cap0 z0 s0) 31) = w3 := ⟨_, rfl⟩
      rw [hw3] at k0 k1 k2
      have HW3 := boxed hw3
      unfold rbc at HW3
      have HB3 := boxed (below_step HB2.out (Nat.le_refl _) k1)
      have HB4 := boxed (below_step HB0.out (Nat.le_refl _) HB3.out)
      obtain ⟨p0, p1, p2, p3⟩ := HX1.out w3 HB3.out
      clear hw3 k0 k1 k2
      go_upto_region 4 with fail
      rw [HW3.out]
      go_wp2_with fail
      go_ret
      exact ⟨rfl, HB4.out⟩
  · have ht' : trB n0 R z0 s0 = false := by simpa using ht
    have HBg := boxed (fun W (hb : Below W0.heap.size W0 W) => begun_no _ ao0 n0 cap0 F0 z0 s0 R hR W (HS0.out W hb) ht')
    unfold rbv at HBg
    clear hR hRC ht ht' hs0 hn0 ho1
    go_enter Try.func7, Try.ntmps7
    go_upto_region 1 with fail
    rw [HW0.out]
    go_wp2_with fail
    refine (awake_any _).mono ?_
    rintro e w1 ⟨rfl, hb1⟩
    have HB1 := boxed hb1
    obtain ⟨⟨x0, x1, x2, x3, x4, x5, x6, x7, x8⟩, -⟩ := cells9 (HXP.out w1 hb1)
    clear hb1
    go_wp2_with fail
    refine (HBg.out _ HB1.out).mono ?_
    rintro e w2 ⟨rfl, hb2⟩
    have HB2 := boxed (below_step HB0.out (Nat.le_refl _) (below_step HB1.out (Nat.le_refl _) hb2))
    clear x0 x1 x2 x3 x4 x5 x6 x7 x8 hb2 HBg
    obtain ⟨w3, hw3⟩ : ∃ w3, w2.alloc (.cells (rbc ao0 n0 cap0 z0 s0) 31) = w3 := ⟨_, rfl⟩
    have HB3 : Box (Below w.heap.size w w3) := boxed (by rw [← hw3]; exact HB2.out.alloc (by have := HB2.out.size; omega) _)
    have HW3 := boxed hw3
    unfold rbc at HW3
    clear hw3
    go_upto_region 4 with fail
    rw [HW3.out]
    go_wp2_with fail
    go_ret
    exact ⟨rfl, HB3.out⟩

set_option maxRecDepth 100000 in
theorem lifted (os : Os) (started : os.Started) (H : Type) (enc : TypeId × Value → H) :
    ReturnsInHanded {} Try.checked os 7 .any (Rows.repageBackSpec.pre6 enc Try.prog Try.f7 Rows.repageBackRow.domain false) (Rows.repageBackSpec.post enc Try.prog Try.f7 false true false false) := by
  refine returnsInHanded_of_change_sized (C := Try.checked) own started (by kernel_rfl) Try.func7
    (ChangeSpec.witness6 (enc := enc) (C := Try.checked) false ⟨#[], #[.agg #[.slice none 0 0, .int .i64 0, .int .i64 0, .int .i64 0, .int .i64 0, .int .i64 0, .int .i64 0, .int .i64 0, .int .i64 0], .agg #[.int .i64 0, .int .i64 0, .slice none 0 0, .int .i64 0]], []⟩ 8 (by kernel_rfl) (by kernel_rfl) (by kernel_rfl) (by kernel_rfl)) ?_
  intro W base args ds gs before hval0 hW hcnd hsz0 _
  have hval : ∀ (j : Nat) t v, Try.f7.params[j]? = some t → args[j]? = some v → Value.okWide Try.prog W .any base t v := hval0
  have hsz : (DataW.weightsEach Try.prog (Try.f7.params.toList ++ Rows.repageBackSpec.plain.varTypes Try.prog) (ds ++ gs)).all (· ≤ reachBytes) = true := hsz0
  have hW' := hW
  obtain ⟨p, q, hA0, hV, rfl, hfz, hnd⟩ := hW
  have hA : DataW.TrodAll enc Try.prog W 0 (fun _ => true) true Try.f7.params.toList args.toList ds p := hA0
  rw [Try.params7] at hA hval hsz
  obtain ⟨v0, vs0, d0, ds0, p0, q0, hargs, rfl, rfl, h0, r0⟩ := trodAll_cons hA
  obtain ⟨v1, vs1, d1, ds1, p1, q1, rfl, rfl, rfl, h1, r1⟩ := trodAll_cons r0
  obtain ⟨rfl, rfl, rfl⟩ := trodAll_nil r1
  obtain rfl : args = #[v0, v1] := by cases args; simp_all
  obtain ⟨rfl, rfl⟩ := trodVars_none hV
  have k0 := h0
  have lt0 : ∀ x ∈ p0, x.block < W.heap.size := by obtain ⟨m, hm⟩ := k0; exact DataW.trod_lt m _ _ _ hm
  obtain ⟨ao0, n0, cap0, z0, s0, F0, rfl, hn0, hF0, hs0⟩ : ∃ (ao : Option Addr) (n cap : Nat) (z : Int) (s : Stg) (F : Nat → Slt), v0 = rbv ao n cap z s ∧ ((n ≤ maxLen ∧ n ≤ cap) ∧ (ao = none → cap = 0)) ∧ SltsAt (fun _ => True) W ao n F ∧ I64 z ∧ I64 s.t ∧ I64 s.l ∧ I64 s.a ∧ I64 s.d ∧ I64 s.z ∧ I64 s.o ∧ I64 s.i := by
    obtain ⟨fuel, hf⟩ := k0
    exact start_value hf
  have k1 := h1
  have lt1 : ∀ x ∈ p1, x.block < W.heap.size := by obtain ⟨m, hm⟩ := k1; exact DataW.trod_lt m _ _ _ hm
  obtain ⟨o1, rfl, ho1⟩ : ∃ o : Op3, v1 = o.val ∧ OpIs W o := by
    obtain ⟨fuel, hf⟩ := k1
    exact op3_value hf
  clear hA0 hval0
  refine (walk W ao0 n0 cap0 z0 s0 F0 hn0 hF0 hs0 o1 ho1).mono fun e W' ⟨he, hg⟩ => ?_
  subst he
  exact ⟨_, rfl, _, _, _, [], _, [], hW', trodAll_mk1 (shut_bool Try.underlying4 _), (trodAll_cons_mk (Below.trod laidOut (by kernel_rfl) (of_decide_eq_true (by kernel_rfl)) k0 hg lt0) (trodAll_cons_mk (Below.trod laidOut (by kernel_rfl) (of_decide_eq_true (by kernel_rfl)) k1 hg lt1) trodAll_mk0)), rfl, hg.frame _, fun h => by cases h⟩

theorem proved : Rows.RepageBackSaid :=
  OpenClaim.holds_of_wide 7 Try.f7 rfl rfl rfl rfl rfl rfl rfl ⟨rfl, rfl, rfl, rfl, rfl⟩ rfl rfl rfl rfl rfl (by kernel_rfl) Try.func7 (by kernel_rfl)
    (of_decide_eq_true (by kernel_rfl)) (by unfold Func.isWrapper; first | (rw [if_pos (by decide +kernel)]; kernel_rfl) | (rw [if_neg (by decide +kernel)]; exact ⟨rfl, rfl⟩))
    (fun os started H enc _ => lifted os started H enc)
#print axioms proved
end Go.Proofs.Ytdpjaafdpgkclaa.repageBack
