/-
  For all lines, heights, settings and calls RepageKeeps answers true: where lines may be replaced, the pages ahead of the one that is told begin where they began, and behind those that were built they begin with the lines that they began with.
  No condition besides the statement's own.
-/
import Derived.Test.YtdpjaafdpgkclaaRows
import Derived.WalkKit
import Derived.ProofKit
import Derived.OpenShut
import Derived.SizedLaws
import Derived.ShutString
import Derived.ChangeOld
import Derived.Below
import Derived.Test.YtdpjaafdpgkclaaTz
import Derived.Deep.RegionWith
import Derived.Deep.RegionHeld3
namespace Go.Proofs.Ytdpjaafdpgkclaa.repageKeeps
open Go.ChangeShapes Go.WideShapes Go.ChangeAt Go.RowKit
open Go.ChangeMaps (open_string shut_string)
set_option linter.unusedVariables false
set_option linter.unusedSimpArgs false

theorem own : ownKnob Try.prog.godebug = none := by kernel_rfl
theorem laidOut : laidOutB Try.prog = true := by kernel_rfl

set_option maxRecDepth 100000 in
set_option maxHeartbeats 16000000 in
theorem walk (w : World) (ao0 : Option Addr) (n0 cap0 : Nat) (z0 : Int) (s0 : Stg) (F0 : Nat → Slt) (hn0 : (n0 ≤ maxLen ∧ n0 ≤ cap0) ∧ (ao0 = none → cap0 = 0)) (hF0 : SltsAt (fun _ => True) w ao0 n0 F0) (hs0 : I64 z0 ∧ I64 s0.t ∧ I64 s0.l ∧ I64 s0.a ∧ I64 s0.d ∧ I64 s0.z ∧ I64 s0.o ∧ I64 s0.i) (o1 : Op3) (ho1 : OpIs w o1) :
    Calls Try.prog 5 #[rbv ao0 n0 cap0 z0 s0, o1.val] w fun e w' => e = .returned (.bool true) ∧ Below w.heap.size w w' := by
  obtain ⟨R, hR⟩ : ∃ R : Bool, (R = true ↔ Rts F0 n0 0) := by
    by_cases c : Rts F0 n0 0
    · exact ⟨true, by simp [c]⟩
    · exact ⟨false, by simp [c]⟩
  obtain ⟨RC, hRC⟩ : ∃ R : Bool, (R = true ↔ Rts o1.C o1.m 0) := by
    by_cases c : Rts o1.C o1.m 0
    · exact ⟨true, by simp [c]⟩
    · exact ⟨false, by simp [c]⟩
  have hN : (n0 : Int) ≤ 9223372036854775807 := by have := hn0.1.1; unfold maxLen at this; omega
  have hcap := hn0.1.2
  have HOp := boxed ho1
  obtain ⟨l0, l1, l2, l3⟩ := laid2 w (.cells (rbc ao0 n0 cap0 z0 s0) 26) (.cells #[.int .i64 o1.f, .int .i64 o1.d, .slice o1.bo o1.m o1.mc, .int .i64 o1.h] 35)
  obtain ⟨W0, hW0⟩ : ∃ W0, (w.alloc (.cells (rbc ao0 n0 cap0 z0 s0) 26)).alloc (.cells #[.int .i64 o1.f, .int .i64 o1.d, .slice o1.bo o1.m o1.mc, .int .i64 o1.h] 35) = W0 := ⟨_, rfl⟩
  rw [hW0] at l0 l1 l2 l3
  have HZ0 := boxed l3
  have HXP : Box (∀ W, Below W0.heap.size W0 W → W.heap[w.heap.size]? = some (.cells (rbc ao0 n0 cap0 z0 s0) 26 (0, 0))) := boxed (fun W hb => (hb.block _ (by omega)).trans l0)
  have HX1 : Box (∀ W, Below W0.heap.size W0 W → (W.cell? ⟨w.heap.size + 1, 0, none⟩ = some (.int .i64 o1.f) ∧ W.cell? ⟨w.heap.size + 1, 1, none⟩ = some (.int .i64 o1.d) ∧ W.cell? ⟨w.heap.size + 1, 2, none⟩ = some (.slice o1.bo o1.m o1.mc) ∧ W.cell? ⟨w.heap.size + 1, 3, none⟩ = some (.int .i64 o1.h))) := boxed (fun W hb => by
    have hc := fun i => cell_of_row W (w.heap.size + 1) i _ _ _ ((hb.block _ (by omega)).trans l1)
    exact ⟨hc 0, hc 1, hc 2, hc 3⟩)
  have HB0 := boxed l2
  have HW0 := boxed hW0
  have HS0 := boxed (fun W (hb : Below W0.heap.size W0 W) => hF0.here.low (below_step HB0.out (Nat.le_refl _) hb))
  have HC0 := boxed (fun W (hb : Below W0.heap.size W0 W) => ho1.C.low (below_step HB0.out (Nat.le_refl _) hb))
  unfold rbc at HW0
  unfold rbv Op3.val
  clear l0 l1 l2 l3 hW0 hF0
  by_cases ht : trB n0 R z0 s0 = true
  · obtain ⟨hl, hRt, hE⟩ : n0 ≤ 150 ∧ Rts F0 n0 0 ∧ ckE z0 s0 = 0 := by
      unfold trB at ht
      simp only [Bool.and_eq_true, decide_eq_true_eq] at ht
      exact ⟨ht.1.1, hR.1 ht.1.2, (ckb_iff z0 s0).1 ht.2⟩
    have HBg := boxed (fun W (hb : Below W0.heap.size W0 W) => begun_ok _ ao0 n0 cap0 F0 z0 s0 hRt W (HS0.out W hb) hcap hl hE)
    have HMy := boxed (fun (lo : Option Addr) W (h1 : SltsAt (fun b => b < w.heap.size) W ao0 n0 F0) (h2 : SltsAt (fun b => b < w.heap.size) W o1.bo o1.m o1.C) (hm : o1.m ≤ 1000) => may13_any ⟨F0, n0, s0.o, s0.i, z0⟩ s0 _ _ ao0 o1.bo cap0 o1.m o1.mc o1.C RC hRC o1.f o1.d HOp.out.f HOp.out.d W h1 h2 (by simp only; omega) hm)
    simp only at HMy
    unfold rbv at HBg HMy
    have HRC := boxed hRC
    clear hR hRC ht hRt hE hs0 hn0 ho1
    by_cases hh : o1.h = 0
    · have HHh := boxed hh
      clear hh
      by_cases hm : o1.m ≤ 60
      · have t1 : decide ((60 : Int) < (o1.m : Int)) = false := decide_eq_false (by omega)
        have t1' : decide (60 < o1.m) = false := decide_eq_false (by omega)
        have hmy := fun W h1 h2 => HMy.out ao0 W h1 h2 (by omega)
        cases hwv : wh ⟨F0, n0, s0.o, s0.i, z0⟩ o1.f o1.d && RC with
        | false =>
          rw [hwv] at hmy
          clear hwv HRC HMy
          go_enter Try.func5, Try.ntmps5
          go_upto_region 1 with fail
          rw [HW0.out]
          go_wp2_with fail
          refine (awake_any _).mono ?_
          rintro e w1 ⟨rfl, hb1⟩
          have HB1 := boxed hb1
          obtain ⟨⟨x0, x1, x2, x3, x4, x5, x6, x7, x8⟩, -⟩ := cells9 (HXP.out w1 hb1)
          clear hb1
          go_wp2_with fail
          refine (HBg.out _ HB1.out).mono ?_
          rintro e w2 ⟨p, ao, cap, so, sc, J, rfl, hBk, hb2⟩
          have HB2 := boxed (below_step HB1.out (Nat.le_refl _) hb2)
          clear x0 x1 x2 x3 x4 x5 x6 x7 x8 hb2 hBk HBg
          obtain ⟨k0, k1, k2⟩ := laid1 w2 (.cells (rbc ao0 n0 cap0 z0 s0) 31)
          obtain ⟨w3, hw3⟩ : ∃ w3, w2.alloc (.cells (rbc ao0 n0 cap0 z0 s0) 31) = w3 := ⟨_, rfl⟩
          rw [hw3] at k0 k1 k2
          have HW3 := boxed hw3
          unfold rbc at HW3
          have HB3 := boxed (below_step HB2.out (Nat.le_refl _) k1)
          obtain ⟨⟨x0, x1, x2, x3, x4, x5, x6, x7, x8⟩, -⟩ := cells9 k0
          obtain ⟨p0, p1, p2, p3⟩ := HX1.out w3 HB3.out
          rw [HHh.out] at p3
          have hmy3 := hmy w3 (HS0.out _ HB3.out) (HC0.out _ HB3.out)
          clear hw3 k0 k1 k2 hmy
          go_upto_region 4 with fail
          rw [HW3.out]
          go_wp2_with fail
          refine hmy3.mono ?_
          rintro e w4 ⟨rfl, hb4⟩
          have HB4 := boxed (below_step HB0.out (Nat.le_refl _) (below_step HB3.out (Nat.le_refl _) hb4))
          clear hb4 hmy3 x0 x1 x2 x3 x4 x5 x6 x7 x8 p0 p1 p2 p3
          go_wp2_with fail
          go_ret
          exact ⟨rfl, HB4.out⟩
        | true =>
          rw [hwv] at hmy
          obtain ⟨hwv1, hwv2⟩ : wh ⟨F0, n0, s0.o, s0.i, z0⟩ o1.f o1.d = true ∧ RC = true := by simpa using hwv
          have hRCt := HRC.out.1 hwv2
          obtain ⟨f, d, hfe, hde, hfd, hsf, hsd⟩ := wh_nat hwv1
          have hfd' : f + d ≤ n0 := hfd
          clear hwv HRC HMy hwv1 hwv2
          rw [hfe, hde] at hmy HX1 HW0 ⊢
          go_enter Try.func5, Try.ntmps5
          go_upto_region 1 with fail
          rw [HW0.out]
          go_wp2_with fail
          refine (awake_any _).mono ?_
          rintro e w1 ⟨rfl, hb1⟩
          have HB1 := boxed hb1
          obtain ⟨⟨x0, x1, x2, x3, x4, x5, x6, x7, x8⟩, -⟩ := cells9 (HXP.out w1 hb1)
          clear hb1
          go_wp2_with fail
          refine (HBg.out _ HB1.out).mono ?_
          rintro e w2 ⟨p, ao, cap, so, sc, J, rfl, hBk, hb2⟩
          have HB2 := boxed (below_step HB1.out (Nat.le_refl _) hb2)
          have HBk := boxed hBk
          clear x0 x1 x2 x3 x4 x5 x6 x7 x8 hb2 hBk HBg
          obtain ⟨k0, k1, k2⟩ := laid1 w2 (.cells (rbc ao0 n0 cap0 z0 s0) 31)
          obtain ⟨w3, hw3⟩ : ∃ w3, w2.alloc (.cells (rbc ao0 n0 cap0 z0 s0) 31) = w3 := ⟨_, rfl⟩
          rw [hw3] at k0 k1 k2
          have HW3 := boxed hw3
          unfold rbc at HW3
          have HB3 := boxed (below_step HB2.out (Nat.le_refl _) k1)
          have HBk3 := boxed (HBk.out.below k1)
          have HK0 := boxed k0
          have HK2 := boxed k2
          obtain ⟨⟨x0, x1, x2, x3, x4, x5, x6, x7, x8⟩, -⟩ := cells9 k0
          obtain ⟨p0, p1, p2, p3⟩ := HX1.out w3 HB3.out
          rw [HHh.out] at p3
          have hmy3 := hmy w3 (HS0.out _ HB3.out) (HC0.out _ HB3.out)
          clear hw3 k0 k1 k2 hmy
          go_upto_region 4 with fail
          rw [HW3.out]
          go_wp2_with fail
          refine hmy3.mono ?_
          rintro e w4 ⟨rfl, hb4⟩
          have HB4 := boxed (below_step HB3.out (Nat.le_refl _) hb4)
          have HBk4 := boxed (HBk3.out.below hb4)
          have HK4 := boxed ((hb4.block _ (heap_lt HK0.out)).trans HK0.out)
          have hz4 := hb4.size
          clear hb4 hmy3 x0 x1 x2 x3 x4 x5 x6 x7 x8 p0 p1 p2 p3 HBk3 HBk HK0
          obtain ⟨D, hD⟩ : ∃ D : Dc, Dc.mk F0 n0 s0.o s0.i z0 = D := ⟨_, rfl⟩
          have hDn : D.n = n0 := by rw [← hD]
          rw [hD] at HBk4
          replace hfd : f + d ≤ D.n := by rw [← hD]; exact hfd
          replace hsf : f = D.n ∨ (D.F f).i = 0 := by rw [← hD]; exact hsf
          replace hsd : f + d = D.n ∨ (D.F (f + d)).i = 0 := by rw [← hD]; exact hsd
          have hn150 : D.n ≤ 150 := by omega
          have hst := starts_any HBk4.out
          have hJn := HBk4.out.jle
          have hlt4 := HBk4.out.lt
          clear hD hDn
          go_wp2_with fail
          refine hst.mono ?_
          rintro e w5 ⟨a5, k5, rfl, ho5, hb5⟩
          have HB5 := boxed (below_step HB4.out (Nat.le_refl _) hb5)
          have hBk5 := HBk4.out.below hb5
          have hz45 := hb5.size
          have HO5 := boxed (own_nat ho5 (D.its_len J))
          obtain ⟨q, hq⟩ := upto_some (D.its J) (f : Int) (its_rise D J)
          have hqJ : q ≤ J := by have := hq.1; rw [D.its_len] at this; exact this
          obtain ⟨p0, p1, p2, p3⟩ := HX1.out w5 HB5.out
          have hz1 : w.heap.size + 2 ≤ w1.heap.size := by have := HB1.out.size; have := HZ0.out; omega
          have hrep := rep13_any hBk5 (fun b => b < w.heap.size) o1.bo o1.m o1.mc o1.C (HC0.out w5 HB5.out) (fun b hb => ⟨by have := (hlt4 p (.inl rfl)).1; omega, fun e => by have := (hlt4 b (.inr (.inl e.symm))).1; omega⟩) hRCt (by omega) HOp.out.mc f d hfd hsf hsd (by omega) q hq
          obtain ⟨pg, hpg⟩ : ∃ pg, q - 2 = pg := ⟨_, rfl⟩
          rw [hpg] at hrep
          have hpgJ : pg ≤ J := by omega
          have HPs := boxed hBk5.pgs
          clear hst ho5 hb5 hBk5 hq hpg
          go_wp2_with fail
          refine hrep.mono ?_
          rintro e w6 ⟨bl, J', ao', cap', so', sc', rfl, hBk6, hBl, hit, hFr, -, -⟩
          have hz5 : w1.heap.size ≤ w5.heap.size := by have := (hlt4 p (.inl rfl)); omega
          have hb6 : Below w1.heap.size w5 w6 := hFr.below (hlt4 p (.inl rfl)).1 (fun k e => (hlt4 k (.inr (.inl e))).1) hz5
          have HB6 := boxed (HB5.out.trans (hb6.mono HB1.out.size))
          have HO6 := boxed (nat_far (S' := fun _ => True) HO5.out hFr (fun b hb => ⟨⟨by have := (hlt4 p (.inl rfl)).2; omega, fun e => by have := (hlt4 b (.inr (.inl e.symm))).2; omega⟩, trivial⟩))
          have HTl := boxed (keeps_tail D J f d o1.m o1.C J' pg bl HPs.out hBk6.pgs hfd hBl)
          have HBl := boxed hBl
          have HIt := boxed hit
          have hbl1 := hBl.1
          have hJn' := hBk6.jle
          have hnD' := hBk6.dc.n
          have hst6 := starts_any hBk6
          clear p0 p1 p2 p3 hBl hit hFr hb6 hrep
          go_wp2_with fail
          refine hst6.mono ?_
          rintro e w7 ⟨a7, k7, rfl, ho7, hb7⟩
          have HB7 := boxed (below_step HB6.out (Nat.le_refl _) hb7)
          have HF7 := boxed (below_step HB0.out (Nat.le_refl _) HB7.out)
          have HO7 := boxed (own_nat ho7 ((D.put f d o1.m o1.C).its_len J'))
          have HO8 := boxed (HO6.out.below hb7)
          clear ho7 hb7 hBk6 hst6 HO6 HO5 HBk4
          have e1 : decide ((pg : Int) < 0) = false := decide_eq_false (by omega)
          have e2 : decide ((bl : Int) < 0) = false := decide_eq_false (by omega)
          have e3 : decide ((J' : Int) < (pg : Int) + (bl : Int)) = false := decide_eq_false (by omega)
          have e3' : decide (J' < pg + bl) = false := decide_eq_false (by omega)
          have e4 : decide ((J : Int) < (pg : Int)) = false := decide_eq_false (by omega)
          have e4' : decide (J < pg) = false := decide_eq_false (by omega)
          go_wp2_with fail
          clear e1 e2 e3 e3' e4 e4'
          go_loopw [13] (fun iv wr => ∃ i : Nat, i ≤ pg ∧ iv = .int .i64 (i : Nat) ∧ Box (Below w7.heap.size w7 wr)) (fun iv _ => pg - (intOf iv).toNat)
          case atStart => exact ⟨0, Nat.zero_le _, rfl, boxed (Below.refl _ _)⟩
          case round =>
            obtain ⟨i, hi, rfl, HB8⟩ := hrel
            by_cases hlt : i < pg
            · obtain ⟨b7, rfl, -, -⟩ := HO7.out.form (by rw [Dc.its_len]; omega)
              obtain ⟨b5, rfl, -, -⟩ := HO8.out.form (by rw [Dc.its_len]; omega)
              have cn := (HO7.out.below HB8.out).get i (by rw [Dc.its_len]; omega)
              have cw := (HO8.out.below HB8.out).get i (by rw [Dc.its_len]; omega)
              rw [Dc.its_get _ _ _ (show i < J' by omega), HIt.out i (by omega)] at cn
              rw [Dc.its_get _ _ _ (show i < J by omega)] at cw
              generalize D.it i = x at *
              have i1 : (i : Int) < (J' : Int) := by omega
              have i2 : (i : Int) < (J : Int) := by omega
              go_wp2_with fail
              go_quiet (fail)
              have HB9 := boxed (below_step HB8.out (Nat.le_refl _) (bel_drewN _ wr nq))
              go_wp2_with fail
              go_roundw
              case rel => exact ⟨i + 1, by omega, by go_num, HB9⟩
              case measure => simp [intOf]; omega
            · obtain rfl : i = pg := by omega
              have t0 : decide ((i : Int) < (i : Int)) = false := decide_eq_false (by omega)
              obtain ⟨rs, hrs⟩ : ∃ rs, J' - i - bl = rs := ⟨_, rfl⟩
              rw [hrs] at HTl
              have hrsJ := HTl.out.1
              have hri : (J' : Int) - (i : Int) - (bl : Int) = (rs : Int) := by omega
              have t1 : decide ((J : Int) < (rs : Int)) = false := decide_eq_false (by omega)
              have t1' : decide (J < rs) = false := decide_eq_false (by omega)
              have hrsJ' : rs ≤ J' := by omega
              clear hrs
              have HB9 := HB8
              go_wp2_with fail
              clear t0 t1 t1'
              go_loopw [15] (fun kv wx => ∃ k : Nat, 1 ≤ k ∧ k ≤ rs + 1 ∧ kv = .int .i64 (k : Nat) ∧ Box (Below w7.heap.size w7 wx)) (fun kv _ => rs + 1 - (intOf kv).toNat)
              case atStart => exact ⟨1, by omega, by omega, rfl, HB9⟩
              case round =>
                obtain ⟨k, hk1, hk2, rfl, HB8⟩ := hrel
                by_cases hle : k ≤ rs
                · obtain ⟨b7, rfl, -, -⟩ := HO7.out.form (by rw [Dc.its_len]; omega)
                  obtain ⟨b5, rfl, -, -⟩ := HO8.out.form (by rw [Dc.its_len]; omega)
                  have cn := (HO7.out.below HB8.out).get (J' - k) (by rw [Dc.its_len]; omega)
                  have cw := (HO8.out.below HB8.out).get (J - k) (by rw [Dc.its_len]; omega)
                  rw [Dc.its_get _ _ _ (show J' - k < J' by omega)] at cn
                  rw [Dc.its_get _ _ _ (show J - k < J by omega)] at cw
                  obtain ⟨g1, g2⟩ := HTl.out.2 k hk1 hle
                  have g3 := D.it_le (J - k)
                  have g4 := (D.put f d o1.m o1.C).it_le (J' - k)
                  generalize D.it (J - k) = c at *
                  generalize (D.put f d o1.m o1.C).it (J' - k) = a at *
                  obtain ⟨j', hj'⟩ : ∃ j', J' - k = j' := ⟨_, rfl⟩
                  obtain ⟨j, hj⟩ : ∃ j, J - k = j := ⟨_, rfl⟩
                  rw [hj'] at cn
                  rw [hj] at cw
                  have s1 : (J' : Int) - (k : Int) = (j' : Int) := by omega
                  have s2 : (J : Int) - (k : Int) = (j : Int) := by omega
                  have s1w : IntKind.i64.wrap ((J' : Int) - (k : Int)) = (j' : Int) := by rw [IntKind.wrap_i64]; omega
                  have s2w : IntKind.i64.wrap ((J : Int) - (k : Int)) = (j : Int) := by rw [IntKind.wrap_i64]; omega
                  have i1 : (j' : Int) < (J' : Int) := by omega
                  have i2 : (j : Int) < (J : Int) := by omega
                  have i3 : (0 : Int) ≤ (j' : Int) := by omega
                  have i4 : (0 : Int) ≤ (j : Int) := by omega
                  have t2 : decide ((k : Int) ≤ (rs : Int)) = true := decide_eq_true (by omega)
                  have t2' : decide (k ≤ rs) = true := decide_eq_true (by omega)
                  clear hj hj'
                  go_wp2_with fail
                  go_quiet (fail)
                  have HB9 := boxed (below_step HB8.out (Nat.le_refl _) (bel_drewN _ wr nq))
                  obtain ⟨p0, p1, p2, p3⟩ := HX1.out (wr.drewN nq) (below_step HB7.out (Nat.le_refl _) HB9.out)
                  have t3 : decide ((a : Int) < (f : Int) + (o1.m : Int)) = false := decide_eq_false (by omega)
                  have t4 : ((a : Int) - (o1.m : Int) == (c : Int) - (d : Int)) = true := by simp; omega
                  have t5 : ((a : Int) - (o1.m : Int) != (c : Int) - (d : Int)) = false := by simp; omega
                  have t6 : (a : Int) - (o1.m : Int) = (c : Int) - (d : Int) := by omega
                  generalize wr.drewN nq = wz at *
                  go_wp2_with fail
                  go_roundw
                  case rel => exact ⟨k + 1, by omega, by omega, by go_num, HB9⟩
                  case measure => simp [intOf]; omega
                · obtain rfl : k = rs + 1 := by omega
                  have HF := boxed (below_step HF7.out (Nat.le_refl _) HB8.out)
                  obtain ⟨k', hk'⟩ : ∃ k', rs + 1 = k' := ⟨_, rfl⟩
                  rw [hk']
                  have t2 : decide ((k' : Int) ≤ (rs : Int)) = false := decide_eq_false (by omega)
                  have t2' : decide (k' ≤ rs) = false := decide_eq_false (by omega)
                  clear hk'
                  go_wp2_with fail
                  go_ret
                  exact ⟨rfl, HF.out⟩
      · have t1 : decide ((60 : Int) < (o1.m : Int)) = true := decide_eq_true (by omega)
        have t1' : decide (60 < o1.m) = true := decide_eq_true (by omega)
        clear HRC HMy
        go_enter Try.func5, Try.ntmps5
        go_upto_region 1 with fail
        rw [HW0.out]
        go_wp2_with fail
        refine (awake_any _).mono ?_
        rintro e w1 ⟨rfl, hb1⟩
        have HB1 := boxed hb1
        obtain ⟨⟨x0, x1, x2, x3, x4, x5, x6, x7, x8⟩, -⟩ := cells9 (HXP.out w1 hb1)
        clear hb1
        go_wp2_with fail
        refine (HBg.out _ HB1.out).mono ?_
        rintro e w2 ⟨p, ao, cap, so, sc, J, rfl, hBk, hb2⟩
        have HB2 := boxed (below_step HB1.out (Nat.le_refl _) hb2)
        clear x0 x1 x2 x3 x4 x5 x6 x7 x8 hb2 hBk HBg
        obtain ⟨k0, k1, k2⟩ := laid1 w2 (.cells (rbc ao0 n0 cap0 z0 s0) 31)
        obtain ⟨w3, hw3⟩ : ∃ w3, w2.alloc (.cells (rbc ao0 n0 cap0 z0 s0) 31) = w3 := ⟨_, rfl⟩
        rw [hw3] at k0 k1 k2
        have HW3 := boxed hw3
        unfold rbc at HW3
        have HB3 := boxed (below_step HB2.out (Nat.le_refl _) k1)
        have HB4 := boxed (below_step HB0.out (Nat.le_refl _) HB3.out)
        obtain ⟨p0, p1, p2, p3⟩ := HX1.out w3 HB3.out
        rw [HHh.out] at p3
        clear hw3 k0 k1 k2
        go_upto_region 4 with fail
        rw [HW3.out]
        go_wp2_with fail
        go_ret
        exact ⟨rfl, HB4.out⟩
    · have t0 : (o1.h == 0) = false := by simpa using hh
      have t0' : (o1.h != 0) = true := by simpa using hh
      clear HRC HMy
      go_enter Try.func5, Try.ntmps5
      go_upto_region 1 with fail
      rw [HW0.out]
      go_wp2_with fail
      refine (awake_any _).mono ?_
      rintro e w1 ⟨rfl, hb1⟩
      have HB1 := boxed hb1
      obtain ⟨⟨x0, x1, x2, x3, x4, x5, x6, x7, x8⟩, -⟩ := cells9 (HXP.out w1 hb1)
      clear hb1
      go_wp2_with fail
      refine (HBg.out _ HB1.out).mono ?_
      rintro e w2 ⟨p, ao, cap, so, sc, J, rfl, hBk, hb2⟩
      have HB2 := boxed (below_step HB1.out (Nat.le_refl _) hb2)
      clear x0 x1 x2 x3 x4 x5 x6 x7 x8 hb2 hBk HBg
      obtain ⟨k0, k1, k2⟩ := laid1 w2 (.cells (rbc ao0 n0 cap0 z0 s0) 31)
      obtain ⟨w3, hw3⟩ : ∃ w3, w2.alloc (.cells (rbc ao0 n0 cap0 z0 s0) 31) = w3 := ⟨_, rfl⟩
      rw [hw3] at k0 k1 k2
      have HW3 := boxed hw3
      unfold rbc at HW3
      have HB3 := boxed (below_step HB2.out (Nat.le_refl _) k1)
      have HB4 := boxed (below_step HB0.out (Nat.le_refl _) HB3.out)
      obtain ⟨p0, p1, p2, p3⟩ := HX1.out w3 HB3.out
      clear hw3 k0 k1 k2
      go_upto_region 4 with fail
      rw [HW3.out]
      go_wp2_with fail
      go_ret
      exact ⟨rfl, HB4.out⟩
  · have ht' : trB n0 R z0 s0 = false := by simpa using ht
    have HBg := boxed (fun W (hb : Below W0.heap.size W0 W) => begun_no _ ao0 n0 cap0 F0 z0 s0 R hR W (HS0.out W hb) ht')
    unfold rbv at HBg
    clear hR hRC ht ht' hs0 hn0 ho1
    go_enter Try.func5, Try.ntmps5
    go_upto_region 1 with fail
    rw [HW0.out]
    go_wp2_with fail
    refine (awake_any _).mono ?_
    rintro e w1 ⟨rfl, hb1⟩
    have HB1 := boxed hb1
    obtain ⟨⟨x0, x1, x2, x3, x4, x5, x6, x7, x8⟩, -⟩ := cells9 (HXP.out w1 hb1)
    clear hb1
    go_wp2_with fail
    refine (HBg.out _ HB1.out).mono ?_
    rintro e w2 ⟨rfl, hb2⟩
    have HB2 := boxed (below_step HB0.out (Nat.le_refl _) (below_step HB1.out (Nat.le_refl _) hb2))
    clear x0 x1 x2 x3 x4 x5 x6 x7 x8 hb2 HBg
    obtain ⟨w3, hw3⟩ : ∃ w3, w2.alloc (.cells (rbc ao0 n0 cap0 z0 s0) 31) = w3 := ⟨_, rfl⟩
    have HB3 : Box (Below w.heap.size w w3) := boxed (by rw [← hw3]; exact HB2.out.alloc (by have := HB2.out.size; omega) _)
    have HW3 := boxed hw3
    unfold rbc at HW3
    clear hw3
    go_upto_region 4 with fail
    rw [HW3.out]
    go_wp2_with fail
    go_ret
    exact ⟨rfl, HB3.out⟩

set_option maxRecDepth 100000 in
theorem lifted (os : Os) (started : os.Started) (H : Type) (enc : TypeId × Value → H) :
    ReturnsInHanded {} Try.checked os 5 .any (Rows.repageKeepsSpec.pre6 enc Try.prog Try.f5 Rows.repageKeepsRow.domain false) (Rows.repageKeepsSpec.post enc Try.prog Try.f5 false true false false) := by
  refine returnsInHanded_of_change_sized (C := Try.checked) own started (by kernel_rfl) Try.func5
    (ChangeSpec.witness6 (enc := enc) (C := Try.checked) false ⟨#[], #[.agg #[.slice none 0 0, .int .i64 0, .int .i64 0, .int .i64 0, .int .i64 0, .int .i64 0, .int .i64 0, .int .i64 0, .int .i64 0], .agg #[.int .i64 0, .int .i64 0, .slice none 0 0, .int .i64 0]], []⟩ 8 (by kernel_rfl) (by kernel_rfl) (by kernel_rfl) (by kernel_rfl)) ?_
  intro W base args ds gs before hval0 hW hcnd hsz0 _
  have hval : ∀ (j : Nat) t v, Try.f5.params[j]? = some t → args[j]? = some v → Value.okWide Try.prog W .any base t v := hval0
  have hsz : (DataW.weightsEach Try.prog (Try.f5.params.toList ++ Rows.repageKeepsSpec.plain.varTypes Try.prog) (ds ++ gs)).all (· ≤ reachBytes) = true := hsz0
  have hW' := hW
  obtain ⟨p, q, hA0, hV, rfl, hfz, hnd⟩ := hW
  have hA : DataW.TrodAll enc Try.prog W 0 (fun _ => true) true Try.f5.params.toList args.toList ds p := hA0
  rw [Try.params5] at hA hval hsz
  obtain ⟨v0, vs0, d0, ds0, p0, q0, hargs, rfl, rfl, h0, r0⟩ := trodAll_cons hA
  obtain ⟨v1, vs1, d1, ds1, p1, q1, rfl, rfl, rfl, h1, r1⟩ := trodAll_cons r0
  obtain ⟨rfl, rfl, rfl⟩ := trodAll_nil r1
  obtain rfl : args = #[v0, v1] := by cases args; simp_all
  obtain ⟨rfl, rfl⟩ := trodVars_none hV
  have k0 := h0
  have lt0 : ∀ x ∈ p0, x.block < W.heap.size := by obtain ⟨m, hm⟩ := k0; exact DataW.trod_lt m _ _ _ hm
  obtain ⟨ao0, n0, cap0, z0, s0, F0, rfl, hn0, hF0, hs0⟩ : ∃ (ao : Option Addr) (n cap : Nat) (z : Int) (s : Stg) (F : Nat → Slt), v0 = rbv ao n cap z s ∧ ((n ≤ maxLen ∧ n ≤ cap) ∧ (ao = none → cap = 0)) ∧ SltsAt (fun _ => True) W ao n F ∧ I64 z ∧ I64 s.t ∧ I64 s.l ∧ I64 s.a ∧ I64 s.d ∧ I64 s.z ∧ I64 s.o ∧ I64 s.i := by
    obtain ⟨fuel, hf⟩ := k0
    exact start_value hf
  have k1 := h1
  have lt1 : ∀ x ∈ p1, x.block < W.heap.size := by obtain ⟨m, hm⟩ := k1; exact DataW.trod_lt m _ _ _ hm
  obtain ⟨o1, rfl, ho1⟩ : ∃ o : Op3, v1 = o.val ∧ OpIs W o := by
    obtain ⟨fuel, hf⟩ := k1
    exact op3_value hf
  clear hA0 hval0
  refine (walk W ao0 n0 cap0 z0 s0 F0 hn0 hF0 hs0 o1 ho1).mono fun e W' ⟨he, hg⟩ => ?_
  subst he
  exact ⟨_, rfl, _, _, _, [], _, [], hW', trodAll_mk1 (shut_bool Try.underlying4 _), (trodAll_cons_mk (Below.trod laidOut (by kernel_rfl) (of_decide_eq_true (by kernel_rfl)) k0 hg lt0) (trodAll_cons_mk (Below.trod laidOut (by kernel_rfl) (of_decide_eq_true (by kernel_rfl)) k1 hg lt1) trodAll_mk0)), rfl, hg.frame _, fun h => by cases h⟩

theorem proved : Rows.RepageKeepsSaid :=
  OpenClaim.holds_of_wide 5 Try.f5 rfl rfl rfl rfl rfl rfl rfl ⟨rfl, rfl, rfl, rfl, rfl⟩ rfl rfl rfl rfl rfl (by kernel_rfl) Try.func5 (by kernel_rfl)
    (of_decide_eq_true (by kernel_rfl)) (by unfold Func.isWrapper; first | (rw [if_pos (by decide +kernel)]; kernel_rfl) | (rw [if_neg (by decide +kernel)]; exact ⟨rfl, rfl⟩))
    (fun os started H enc _ => lifted os started H enc)
#print axioms proved
end Go.Proofs.Ytdpjaafdpgkclaa.repageKeeps
