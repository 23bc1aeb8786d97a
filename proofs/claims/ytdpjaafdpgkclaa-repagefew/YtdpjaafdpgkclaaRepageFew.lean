/-
  For all lines, heights, settings and calls RepageFew answers true: where lines may be replaced, no page is built that begins, behind the lines that came, with a line with which a page began ahead of the call.
  No condition besides the statement's own.
-/
import Derived.Test.YtdpjaafdpgkclaaRows
import Derived.WalkKit
import Derived.ProofKit
import Derived.OpenShut
import Derived.SizedLaws
import Derived.ShutString
import Derived.ChangeOld
import Derived.Below
import Derived.Test.YtdpjaafdpgkclaaTz
import Derived.Deep.RegionWith
import Derived.Deep.RegionHeld3
namespace Go.Proofs.Ytdpjaafdpgkclaa.repageFew
open Go.ChangeShapes Go.WideShapes Go.ChangeAt Go.RowKit
open Go.ChangeMaps (open_string shut_string)
set_option linter.unusedVariables false
set_option linter.unusedSimpArgs false

theorem own : ownKnob Try.prog.godebug = none := by kernel_rfl
theorem laidOut : laidOutB Try.prog = true := by kernel_rfl

set_option maxRecDepth 100000 in
set_option maxHeartbeats 16000000 in
theorem walk (w : World) (ao0 : Option Addr) (n0 cap0 : Nat) (z0 : Int) (s0 : Stg) (F0 : Nat → Slt) (hn0 : (n0 ≤ maxLen ∧ n0 ≤ cap0) ∧ (ao0 = none → cap0 = 0)) (hF0 : SltsAt (fun _ => True) w ao0 n0 F0) (hs0 : I64 z0 ∧ I64 s0.t ∧ I64 s0.l ∧ I64 s0.a ∧ I64 s0.d ∧ I64 s0.z ∧ I64 s0.o ∧ I64 s0.i) (o1 : Op3) (ho1 : OpIs w o1) :
    Calls Try.prog 6 #[rbv ao0 n0 cap0 z0 s0, o1.val] w fun e w' => e = .returned (.bool true) ∧ Below w.heap.size w w' := by
  obtain ⟨R, hR⟩ : ∃ R : Bool, (R = true ↔ Rts F0 n0 0) := by
    by_cases c : Rts F0 n0 0
    · exact ⟨true, by simp [c]⟩
    · exact ⟨false, by simp [c]⟩
  obtain ⟨RC, hRC⟩ : ∃ R : Bool, (R = true ↔ Rts o1.C o1.m 0) := by
    by_cases c : Rts o1.C o1.m 0
    · exact ⟨true, by simp [c]⟩
    · exact ⟨false, by simp [c]⟩
  have hN : (n0 : Int) ≤ 9223372036854775807 := by have := hn0.1.1; unfold maxLen at this; omega
  have hcap := hn0.1.2
  have HOp := boxed ho1
  obtain ⟨l0, l1, l2, l3⟩ := laid2 w (.cells (rbc ao0 n0 cap0 z0 s0) 26) (.cells #[.int .i64 o1.f, .int .i64 o1.d, .slice o1.bo o1.m o1.mc, .int .i64 o1.h] 35)
  obtain ⟨W0, hW0⟩ : ∃ W0, (w.alloc (.cells (rbc ao0 n0 cap0 z0 s0) 26)).alloc (.cells #[.int .i64 o1.f, .int .i64 o1.d, .slice o1.bo o1.m o1.mc, .int .i64 o1.h] 35) = W0 := ⟨_, rfl⟩
  rw [hW0] at l0 l1 l2 l3
  have HZ0 := boxed l3
  have HXP : Box (∀ W, Below W0.heap.size W0 W → W.heap[w.heap.size]? = some (.cells (rbc ao0 n0 cap0 z0 s0) 26 (0, 0))) := boxed (fun W hb => (hb.block _ (by omega)).trans l0)
  have HX1 : Box (∀ W, Below W0.heap.size W0 W → (W.cell? ⟨w.heap.size + 1, 0, none⟩ = some (.int .i64 o1.f) ∧ W.cell? ⟨w.heap.size + 1, 1, none⟩ = some (.int .i64 o1.d) ∧ W.cell? ⟨w.heap.size + 1, 2, none⟩ = some (.slice o1.bo o1.m o1.mc) ∧ W.cell? ⟨w.heap.size + 1, 3, none⟩ = some (.int .i64 o1.h))) := boxed (fun W hb => by
    have hc := fun i => cell_of_row W (w.heap.size + 1) i _ _ _ ((hb.block _ (by omega)).trans l1)
    exact ⟨hc 0, hc 1, hc 2, hc 3⟩)
  have HB0 := boxed l2
  have HW0 := boxed hW0
  have HS0 := boxed (fun W (hb : Below W0.heap.size W0 W) => hF0.here.low (below_step HB0.out (Nat.le_refl _) hb))
  have HC0 := boxed (fun W (hb : Below W0.heap.size W0 W) => ho1.C.low (below_step HB0.out (Nat.le_refl _) hb))
  unfold rbc at HW0
  unfold rbv Op3.val
  clear l0 l1 l2 l3 hW0 hF0
  by_cases ht : trB n0 R z0 s0 = true
  · obtain ⟨hl, hRt, hE⟩ : n0 ≤ 150 ∧ Rts F0 n0 0 ∧ ckE z0 s0 = 0 := by
      unfold trB at ht
      simp only [Bool.and_eq_true, decide_eq_true_eq] at ht
      exact ⟨ht.1.1, hR.1 ht.1.2, (ckb_iff z0 s0).1 ht.2⟩
    have HBg := boxed (fun W (hb : Below W0.heap.size W0 W) => begun_ok _ ao0 n0 cap0 F0 z0 s0 hRt W (HS0.out W hb) hcap hl hE)
    have HMy := boxed (fun (lo : Option Addr) W (h1 : SltsAt (fun b => b < w.heap.size) W ao0 n0 F0) (h2 : SltsAt (fun b => b < w.heap.size) W o1.bo o1.m o1.C) (hm : o1.m ≤ 1000) => may13_any ⟨F0, n0, s0.o, s0.i, z0⟩ s0 _ _ ao0 o1.bo cap0 o1.m o1.mc o1.C RC hRC o1.f o1.d HOp.out.f HOp.out.d W h1 h2 (by simp only; omega) hm)
    simp only at HMy
    unfold rbv at HBg HMy
    have HRC := boxed hRC
    clear hR hRC ht hRt hE hs0 hn0 ho1
    by_cases hh : o1.h = 0
    · have HHh := boxed hh
      clear hh
      by_cases hm : o1.m ≤ 60
      · have t1 : decide ((60 : Int) < (o1.m : Int)) = false := decide_eq_false (by omega)
        have t1' : decide (60 < o1.m) = false := decide_eq_false (by omega)
        have hmy := fun W h1 h2 => HMy.out ao0 W h1 h2 (by omega)
        cases hwv : wh ⟨F0, n0, s0.o, s0.i, z0⟩ o1.f o1.d && RC with
        | false =>
          rw [hwv] at hmy
          clear hwv HRC HMy
          go_enter Try.func6, Try.ntmps6
          go_upto_region 1 with fail
          rw [HW0.out]
          go_wp2_with fail
          refine (awake_any _).mono ?_
          rintro e w1 ⟨rfl, hb1⟩
          have HB1 := boxed hb1
          obtain ⟨⟨x0, x1, x2, x3, x4, x5, x6, x7, x8⟩, -⟩ := cells9 (HXP.out w1 hb1)
          clear hb1
          go_wp2_with fail
          refine (HBg.out _ HB1.out).mono ?_
          rintro e w2 ⟨p, ao, cap, so, sc, J, rfl, hBk, hb2⟩
          have HB2 := boxed (below_step HB1.out (Nat.le_refl _) hb2)
          clear x0 x1 x2 x3 x4 x5 x6 x7 x8 hb2 hBk HBg
          obtain ⟨k0, k1, k2⟩ := laid1 w2 (.cells (rbc ao0 n0 cap0 z0 s0) 31)
          obtain ⟨w3, hw3⟩ : ∃ w3, w2.alloc (.cells (rbc ao0 n0 cap0 z0 s0) 31) = w3 := ⟨_, rfl⟩
          rw [hw3] at k0 k1 k2
          have HW3 := boxed hw3
          unfold rbc at HW3
          have HB3 := boxed (below_step HB2.out (Nat.le_refl _) k1)
          obtain ⟨⟨x0, x1, x2, x3, x4, x5, x6, x7, x8⟩, -⟩ := cells9 k0
          obtain ⟨p0, p1, p2, p3⟩ := HX1.out w3 HB3.out
          rw [HHh.out] at p3
          have hmy3 := hmy w3 (HS0.out _ HB3.out) (HC0.out _ HB3.out)
          clear hw3 k0 k1 k2 hmy
          go_upto_region 4 with fail
          rw [HW3.out]
          go_wp2_with fail
          refine hmy3.mono ?_
          rintro e w4 ⟨rfl, hb4⟩
          have HB4 := boxed (below_step HB0.out (Nat.le_refl _) (below_step HB3.out (Nat.le_refl _) hb4))
          clear hb4 hmy3 x0 x1 x2 x3 x4 x5 x6 x7 x8 p0 p1 p2 p3
          go_wp2_with fail
          go_ret
          exact ⟨rfl, HB4.out⟩
        | true =>
          rw [hwv] at hmy
          obtain ⟨hwv1, hwv2⟩ : wh ⟨F0, n0, s0.o, s0.i, z0⟩ o1.f o1.d = true ∧ RC = true := by simpa using hwv
          have hRCt := HRC.out.1 hwv2
          obtain ⟨f, d, hfe, hde, hfd, hsf, hsd⟩ := wh_nat hwv1
          have hfd' : f + d ≤ n0 := hfd
          clear hwv HRC HMy hwv1 hwv2
          rw [hfe, hde] at hmy HX1 HW0 ⊢
          go_enter Try.func6, Try.ntmps6
          go_upto_region 1 with fail
          rw [HW0.out]
          go_wp2_with fail
          refine (awake_any _).mono ?_
          rintro e w1 ⟨rfl, hb1⟩
          have HB1 := boxed hb1
          obtain ⟨⟨x0, x1, x2, x3, x4, x5, x6, x7, x8⟩, -⟩ := cells9 (HXP.out w1 hb1)
          clear hb1
          go_wp2_with fail
          refine (HBg.out _ HB1.out).mono ?_
          rintro e w2 ⟨p, ao, cap, so, sc, J, rfl, hBk, hb2⟩
          have HB2 := boxed (below_step HB1.out (Nat.le_refl _) hb2)
          have HBk := boxed hBk
          clear x0 x1 x2 x3 x4 x5 x6 x7 x8 hb2 hBk HBg
          obtain ⟨k0, k1, k2⟩ := laid1 w2 (.cells (rbc ao0 n0 cap0 z0 s0) 31)
          obtain ⟨w3, hw3⟩ : ∃ w3, w2.alloc (.cells (rbc ao0 n0 cap0 z0 s0) 31) = w3 := ⟨_, rfl⟩
          rw [hw3] at k0 k1 k2
          have HW3 := boxed hw3
          unfold rbc at HW3
          have HB3 := boxed (below_step HB2.out (Nat.le_refl _) k1)
          have HBk3 := boxed (HBk.out.below k1)
          have HK0 := boxed k0
          have HK2 := boxed k2
          obtain ⟨⟨x0, x1, x2, x3, x4, x5, x6, x7, x8⟩, -⟩ := cells9 k0
          obtain ⟨p0, p1, p2, p3⟩ := HX1.out w3 HB3.out
          rw [HHh.out] at p3
          have hmy3 := hmy w3 (HS0.out _ HB3.out) (HC0.out _ HB3.out)
          clear hw3 k0 k1 k2 hmy
          go_upto_region 4 with fail
          rw [HW3.out]
          go_wp2_with fail
          refine hmy3.mono ?_
          rintro e w4 ⟨rfl, hb4⟩
          have HB4 := boxed (below_step HB3.out (Nat.le_refl _) hb4)
          have HBk4 := boxed (HBk3.out.below hb4)
          have HK4 := boxed ((hb4.block _ (heap_lt HK0.out)).trans HK0.out)
          have hz4 := hb4.size
          clear hb4 hmy3 x0 x1 x2 x3 x4 x5 x6 x7 x8 p0 p1 p2 p3 HBk3 HBk HK0
          obtain ⟨D, hD⟩ : ∃ D : Dc, Dc.mk F0 n0 s0.o s0.i z0 = D := ⟨_, rfl⟩
          have hDn : D.n = n0 := by rw [← hD]
          rw [hD] at HBk4
          replace hfd : f + d ≤ D.n := by rw [← hD]; exact hfd
          replace hsf : f = D.n ∨ (D.F f).i = 0 := by rw [← hD]; exact hsf
          replace hsd : f + d = D.n ∨ (D.F (f + d)).i = 0 := by rw [← hD]; exact hsd
          have hn150 : D.n ≤ 150 := by omega
          have hst := starts_any HBk4.out
          have hJn := HBk4.out.jle
          have hlt4 := HBk4.out.lt
          clear hD hDn
          go_wp2_with fail
          refine hst.mono ?_
          rintro e w5 ⟨a5, k5, rfl, ho5, hb5⟩
          have HB5 := boxed (below_step HB4.out (Nat.le_refl _) hb5)
          have hBk5 := HBk4.out.below hb5
          have hz45 := hb5.size
          have HO5 := boxed (own_nat ho5 (D.its_len J))
          obtain ⟨q, hq⟩ := upto_some (D.its J) (f : Int) (its_rise D J)
          have hqJ : q ≤ J := by have := hq.1; rw [D.its_len] at this; exact this
          obtain ⟨p0, p1, p2, p3⟩ := HX1.out w5 HB5.out
          have hz1 : w.heap.size + 2 ≤ w1.heap.size := by have := HB1.out.size; have := HZ0.out; omega
          have hrep := rep13_any hBk5 (fun b => b < w.heap.size) o1.bo o1.m o1.mc o1.C (HC0.out w5 HB5.out) (fun b hb => ⟨by have := (hlt4 p (.inl rfl)).1; omega, fun e => by have := (hlt4 b (.inr (.inl e.symm))).1; omega⟩) hRCt (by omega) HOp.out.mc f d hfd hsf hsd (by omega) q hq
          obtain ⟨pg, hpg⟩ : ∃ pg, q - 2 = pg := ⟨_, rfl⟩
          rw [hpg] at hrep
          have hpgJ : pg ≤ J := by omega
          have HPs := boxed hBk5.pgs
          clear hst ho5 hb5 hBk5 hq hpg
          go_wp2_with fail
          refine hrep.mono ?_
          rintro e w6 ⟨bl, J', ao', cap', so', sc', rfl, hBk6, hBl, hit, hFr, -, -⟩
          have hz5 : w1.heap.size ≤ w5.heap.size := by have := (hlt4 p (.inl rfl)); omega
          have hb6 : Below w1.heap.size w5 w6 := hFr.below (hlt4 p (.inl rfl)).1 (fun k e => (hlt4 k (.inr (.inl e))).1) hz5
          have HB6 := boxed (HB5.out.trans (hb6.mono HB1.out.size))
          have HO6 := boxed (nat_far (S' := fun _ => True) HO5.out hFr (fun b hb => ⟨⟨by have := (hlt4 p (.inl rfl)).2; omega, fun e => by have := (hlt4 b (.inr (.inl e.symm))).2; omega⟩, trivial⟩))
          have HTl := boxed (keeps_tail D J f d o1.m o1.C J' pg bl HPs.out hBk6.pgs hfd hBl)
          have HBl := boxed hBl
          have HIt := boxed hit
          have hbl1 := hBl.1
          have hJn' := hBk6.jle
          have hnD' := hBk6.dc.n
          have hst6 := starts_any hBk6
          clear p0 p1 p2 p3 hBl hit hFr hb6 hrep
          go_wp2_with fail
          refine hst6.mono ?_
          rintro e w7 ⟨a7, k7, rfl, ho7, hb7⟩
          have HB7 := boxed (below_step HB6.out (Nat.le_refl _) hb7)
          have HF7 := boxed (below_step HB0.out (Nat.le_refl _) HB7.out)
          have HO7 := boxed (own_nat ho7 ((D.put f d o1.m o1.C).its_len J'))
          have HO8 := boxed (HO6.out.below hb7)
          clear ho7 hb7 hBk6 hst6 HO6 HO5 HBk4
          have e1 : decide ((pg : Int) < 0) = false := decide_eq_false (by omega)
          have e2 : decide ((bl : Int) < 0) = false := decide_eq_false (by omega)
          have e3 : decide ((J' : Int) < (pg : Int) + (bl : Int)) = false := decide_eq_false (by omega)
          have e3' : decide (J' < pg + bl) = false := decide_eq_false (by omega)
          have e4 : decide ((J : Int) < (pg : Int)) = false := decide_eq_false (by omega)
          have e4' : decide (J < pg) = false := decide_eq_false (by omega)
          have hnoK : ∀ r, r < bl → ¬ Kn D J f d o1.m ((D.put f d o1.m o1.C).it (pg + r)) := HBl.out.2.1
          have HNo := boxed hnoK
          clear hnoK
          go_wp2_with fail
          clear e1 e2 e3 e3' e4 e4'
          go_loopw [13] (fun iv wr => ∃ r : Nat, r ≤ bl ∧ iv = .int .i64 ((pg + r : Nat) : Int) ∧ Box (Below w7.heap.size w7 wr)) (fun iv _ => pg + bl - (intOf iv).toNat)
          case atStart => exact ⟨0, Nat.zero_le _, rfl, boxed (Below.refl _ _)⟩
          case round =>
            obtain ⟨r, hr, rfl, HB8⟩ := hrel
            by_cases hlt : r < bl
            · obtain ⟨b7, rfl, -, -⟩ := HO7.out.form (by rw [Dc.its_len]; omega)
              have cn := (HO7.out.below HB8.out).get (pg + r) (by rw [Dc.its_len]; omega)
              rw [Dc.its_get _ _ _ (show pg + r < J' by omega)] at cn
              have hno := HNo.out r hlt
              have g4 := (D.put f d o1.m o1.C).it_le (pg + r)
              generalize hxx : (D.put f d o1.m o1.C).it (pg + r) = x at *
              have HXx := boxed hxx
              clear hxx
              obtain ⟨y, hy⟩ : ∃ y, pg + r = y := ⟨_, rfl⟩
              rw [hy] at cn ⊢
              have HY := boxed hy
              have i1 : (y : Int) < (J' : Int) := by omega
              have i0 : (y : Int) < (pg : Int) + (bl : Int) := by omega
              have i0' : decide ((y : Int) < (pg : Int) + (bl : Int)) = true := decide_eq_true i0
              have i0'' : decide (y < pg + bl) = true := decide_eq_true (by omega)
              obtain ⟨p0, p1, p2, p3⟩ := HX1.out wr (below_step HB7.out (Nat.le_refl _) HB8.out)
              have hwf : IntKind.i64.wrap ((f : Int) + (o1.m : Int)) = (f : Int) + (o1.m : Int) := by rw [IntKind.wrap_i64]; omega
              by_cases hge : f + o1.m ≤ x
              · have t1 : decide ((x : Int) < (f : Int) + (o1.m : Int)) = false := decide_eq_false (by omega)
                have HNe : Box (∀ j, j < J → ((D.it j : Nat) : Int) - (d : Int) ≠ (x : Int) - (o1.m : Int)) := boxed (fun j hj e => hno ⟨j, hj, by omega, by omega⟩)
                clear hno hy
                go_wp2_with fail
                go_quiet (fail)
                have HB9 := boxed (below_step HB8.out (Nat.le_refl _) (bel_drewN _ wr nq))
                generalize wr.drewN nq = wq at *
                clear p0 p1 p2 p3 cn i0' i0''
                go_wp2_with fail
                go_loopw [14] (fun jv wx => ∃ j : Nat, j ≤ J ∧ jv = .int .i64 (j : Nat) ∧ Box (Below w7.heap.size w7 wx)) (fun jv _ => J - (intOf jv).toNat)
                case atStart => exact ⟨0, Nat.zero_le _, rfl, HB9⟩
                case round =>
                  obtain ⟨j, hj, rfl, HB8⟩ := hrel
                  by_cases hlj : j < J
                  · obtain ⟨b5, rfl, -, -⟩ := HO8.out.form (by rw [Dc.its_len]; omega)
                    have cw := (HO8.out.below HB8.out).get j (by rw [Dc.its_len]; omega)
                    have cn := (HO7.out.below HB8.out).get y (by rw [Dc.its_len]; omega)
                    rw [Dc.its_get _ _ _ hlj] at cw
                    rw [Dc.its_get _ _ _ (show y < J' by omega), ← HY.out, HXx.out] at cn
                    rw [HY.out] at cn
                    have hne := HNe.out j hlj
                    have g5 := D.it_le j
                    generalize D.it j = c at *
                    obtain ⟨p0, p1, p2, p3⟩ := HX1.out wr (below_step HB7.out (Nat.le_refl _) HB8.out)
                    have i2 : (j : Int) < (J : Int) := by omega
                    have hw1 : IntKind.i64.wrap ((c : Int) - (d : Int)) = (c : Int) - (d : Int) := by rw [IntKind.wrap_i64]; omega
                    have hw2 : IntKind.i64.wrap ((x : Int) - (o1.m : Int)) = (x : Int) - (o1.m : Int) := by rw [IntKind.wrap_i64]; omega
                    have t2 : ((c : Int) - (d : Int) == (x : Int) - (o1.m : Int)) = false := by simpa using hne
                    go_wp2_with fail
                    go_quiet (fail)
                    have HB9 := boxed (below_step HB8.out (Nat.le_refl _) (bel_drewN _ wr nq))
                    go_wp2_with fail
                    go_roundw
                    case rel => exact ⟨j + 1, by omega, by go_num, HB9⟩
                    case measure => simp [intOf]; omega
                  · obtain rfl : j = J := by omega
                    have t0 : decide ((j : Int) < (j : Int)) = false := decide_eq_false (by omega)
                    have HB9 := HB8
                    go_wp2_with fail
                    go_roundw
                    case rel => exact ⟨r + 1, by omega, by rw [show pg + (r + 1) = y + 1 by have := HY.out; omega] <;> (first | rfl | go_num), HB9⟩
                    case measure => have := HY.out; simp [intOf]; omega
              · have t1 : decide ((x : Int) < (f : Int) + (o1.m : Int)) = true := decide_eq_true (by omega)
                clear hno hy
                go_wp2_with fail
                go_quiet (fail)
                have HB9 := boxed (below_step HB8.out (Nat.le_refl _) (bel_drewN _ wr nq))
                go_wp2_with fail
                go_roundw
                case rel => exact ⟨r + 1, by omega, by rw [show pg + (r + 1) = y + 1 by have := HY.out; omega] <;> (first | rfl | go_num), HB9⟩
                case measure => have := HY.out; simp [intOf]; omega
            · obtain rfl : r = bl := by omega
              have HF := boxed (below_step HF7.out (Nat.le_refl _) HB8.out)
              have t0 : decide ((pg : Int) + (r : Int) < (pg : Int) + (r : Int)) = false := decide_eq_false (by omega)
              go_wp2_with fail
              go_ret
              exact ⟨rfl, HF.out⟩
      · have t1 : decide ((60 : Int) < (o1.m : Int)) = true := decide_eq_true (by omega)
        have t1' : decide (60 < o1.m) = true := decide_eq_true (by omega)
        clear HRC HMy
        go_enter Try.func6, Try.ntmps6
        go_upto_region 1 with fail
        rw [HW0.out]
        go_wp2_with fail
        refine (awake_any _).mono ?_
        rintro e w1 ⟨rfl, hb1⟩
        have HB1 := boxed hb1
        obtain ⟨⟨x0, x1, x2, x3, x4, x5, x6, x7, x8⟩, -⟩ := cells9 (HXP.out w1 hb1)
        clear hb1
        go_wp2_with fail
        refine (HBg.out _ HB1.out).mono ?_
        rintro e w2 ⟨p, ao, cap, so, sc, J, rfl, hBk, hb2⟩
        have HB2 := boxed (below_step HB1.out (Nat.le_refl _) hb2)
        clear x0 x1 x2 x3 x4 x5 x6 x7 x8 hb2 hBk HBg
        obtain ⟨k0, k1, k2⟩ := laid1 w2 (.cells (rbc ao0 n0 cap0 z0 s0) 31)
        obtain ⟨w3, hw3⟩ : ∃ w3, w2.alloc (.cells (rbc ao0 n0 cap0 z0 s0) 31) = w3 := ⟨_, rfl⟩
        rw [hw3] at k0 k1 k2
        have HW3 := boxed hw3
        unfold rbc at HW3
        have HB3 := boxed (below_step HB2.out (Nat.le_refl _) k1)
        have HB4 := boxed (below_step HB0.out (Nat.le_refl _) HB3.out)
        obtain ⟨p0, p1, p2, p3⟩ := HX1.out w3 HB3.out
        rw [HHh.out] at p3
        clear hw3 k0 k1 k2
        go_upto_region 4 with fail
        rw [HW3.out]
        go_wp2_with fail
        go_ret
        exact ⟨rfl, HB4.out⟩
    · have t0 : (o1.h == 0) = false := by simpa using hh
      have t0' : (o1.h != 0) = true := by simpa using hh
      clear HRC HMy
      go_enter Try.func6, Try.ntmps6
      go_upto_region 1 with fail
      rw [HW0.out]
      go_wp2_with fail
      refine (awake_any _).mono ?_
      rintro e w1 ⟨rfl, hb1⟩
      have HB1 := boxed hb1
      obtain ⟨⟨x0, x1, x2, x3, x4, x5, x6, x7, x8⟩, -⟩ := cells9 (HXP.out w1 hb1)
      clear hb1
      go_wp2_with fail
      refine (HBg.out _ HB1.out).mono ?_
      rintro e w2 ⟨p, ao, cap, so, sc, J, rfl, hBk, hb2⟩
      have HB2 := boxed (below_step HB1.out (Nat.le_refl _) hb2)
      clear x0 x1 x2 x3 x4 x5 x6 x7 x8 hb2 hBk HBg
      obtain ⟨k0, k1, k2⟩ := laid1 w2 (.cells (rbc ao0 n0 cap0 z0 s0) 31)
      obtain ⟨w3, hw3⟩ : ∃ w3, w2.alloc (.cells (rbc ao0 n0 cap0 z0 s0) 31) = w3 := ⟨_, rfl⟩
      rw [hw3] at k0 k1 k2
      have HW3 := boxed hw3
      unfold rbc at HW3
      have HB3 := boxed (below_step HB2.out (Nat.le_refl _) k1)
      have HB4 := boxed (below_step HB0.out (Nat.le_refl _) HB3.out)
      obtain ⟨p0, p1, p2, p3⟩ := HX1.out w3 HB3.out
      clear hw3 k0 k1 k2
      go_upto_region 4 with fail
      rw [HW3.out]
      go_wp2_with fail
      go_ret
      exact ⟨rfl, HB4.out⟩
  · have ht' : trB n0 R z0 s0 = false := by simpa using ht
    have HBg := boxed (fun W (hb : Below W0.heap.size W0 W) => begun_no _ ao0 n0 cap0 F0 z0 s0 R hR W (HS0.out W hb) ht')
    unfold rbv at HBg
    clear hR hRC ht ht' hs0 hn0 ho1
    go_enter Try.func6, Try.ntmps6
    go_upto_region 1 with fail
    rw [HW0.out]
    go_wp2_with fail
    refine (awake_any _).mono ?_
    rintro e w1 ⟨rfl, hb1⟩
    have HB1 := boxed hb1
    obtain ⟨⟨x0, x1, x2, x3, x4, x5, x6, x7, x8⟩, -⟩ := cells9 (HXP.out w1 hb1)
    clear hb1
    go_wp2_with fail
    refine (HBg.out _ HB1.out).mono ?_
    rintro e w2 ⟨rfl, hb2⟩
    have HB2 := boxed (below_step HB0.out (Nat.le_refl _) (below_step HB1.out (Nat.le_refl _) hb2))
    clear x0 x1 x2 x3 x4 x5 x6 x7 x8 hb2 HBg
    obtain ⟨w3, hw3⟩ : ∃ w3, w2.alloc (.cells (rbc ao0 n0 cap0 z0 s0) 31) = w3 := ⟨_, rfl⟩
    have HB3 : Box (Below w.heap.size w w3) := boxed (by rw [← hw3]; exact HB2.out.alloc (by have := HB2.out.size; omega) _)
    have HW3 := boxed hw3
    unfold rbc at HW3
    clear hw3
    go_upto_region 4 with fail
    rw [HW3.out]
    go_wp2_with fail
    go_ret
    exact ⟨rfl, HB3.out⟩

set_option maxRecDepth 100000 in
theorem lifted (os : Os) (started : os.Started) (H : Type) (enc : TypeId × Value → H) :
    ReturnsInHanded {} Try.checked os 6 .any (Rows.repageFewSpec.pre6 enc Try.prog Try.f6 Rows.repageFewRow.domain false) (Rows.repageFewSpec.post enc Try.prog Try.f6 false true false false) := by
  refine returnsInHanded_of_change_sized (C := Try.checked) own started (by kernel_rfl) Try.func6
    (ChangeSpec.witness6 (enc := enc) (C := Try.checked) false ⟨#[], #[.agg #[.slice none 0 0, .int .i64 0, .int .i64 0, .int .i64 0, .int .i64 0, .int .i64 0, .int .i64 0, .int .i64 0, .int .i64 0], .agg #[.int .i64 0, .int .i64 0, .slice none 0 0, .int .i64 0]], []⟩ 8 (by kernel_rfl) (by kernel_rfl) (by kernel_rfl) (by kernel_rfl)) ?_
  intro W base args ds gs before hval0 hW hcnd hsz0 _
  have hval : ∀ (j : Nat) t v, Try.f6.params[j]? = some t → args[j]? = some v → Value.okWide Try.prog W .any base t v := hval0
  have hsz : (DataW.weightsEach Try.prog (Try.f6.params.toList ++ Rows.repageFewSpec.plain.varTypes Try.prog) (ds ++ gs)).all (· ≤ reachBytes) = true := hsz0
  have hW' := hW
  obtain ⟨p, q, hA0, hV, rfl, hfz, hnd⟩ := hW
  have hA : DataW.TrodAll enc Try.prog W 0 (fun _ => true) true Try.f6.params.toList args.toList ds p := hA0
  rw [Try.params6] at hA hval hsz
  obtain ⟨v0, vs0, d0, ds0, p0, q0, hargs, rfl, rfl, h0, r0⟩ := trodAll_cons hA
  obtain ⟨v1, vs1, d1, ds1, p1, q1, rfl, rfl, rfl, h1, r1⟩ := trodAll_cons r0
  obtain ⟨rfl, rfl, rfl⟩ := trodAll_nil r1
  obtain rfl : args = #[v0, v1] := by cases args; simp_all
  obtain ⟨rfl, rfl⟩ := trodVars_none hV
  have k0 := h0
  have lt0 : ∀ x ∈ p0, x.block < W.heap.size := by obtain ⟨m, hm⟩ := k0; exact DataW.trod_lt m _ _ _ hm
  obtain ⟨ao0, n0, cap0, z0, s0, F0, rfl, hn0, hF0, hs0⟩ : ∃ (ao : Option Addr) (n cap : Nat) (z : Int) (s : Stg) (F : Nat → Slt), v0 = rbv ao n cap z s ∧ ((n ≤ maxLen ∧ n ≤ cap) ∧ (ao = none → cap = 0)) ∧ SltsAt (fun _ => True) W ao n F ∧ I64 z ∧ I64 s.t ∧ I64 s.l ∧ I64 s.a ∧ I64 s.d ∧ I64 s.z ∧ I64 s.o ∧ I64 s.i := by
    obtain ⟨fuel, hf⟩ := k0
    exact start_value hf
  have k1 := h1
  have lt1 : ∀ x ∈ p1, x.block < W.heap.size := by obtain ⟨m, hm⟩ := k1; exact DataW.trod_lt m _ _ _ hm
  obtain ⟨o1, rfl, ho1⟩ : ∃ o : Op3, v1 = o.val ∧ OpIs W o := by
    obtain ⟨fuel, hf⟩ := k1
    exact op3_value hf
  clear hA0 hval0
  refine (walk W ao0 n0 cap0 z0 s0 F0 hn0 hF0 hs0 o1 ho1).mono fun e W' ⟨he, hg⟩ => ?_
  subst he
  exact ⟨_, rfl, _, _, _, [], _, [], hW', trodAll_mk1 (shut_bool Try.underlying4 _), (trodAll_cons_mk (Below.trod laidOut (by kernel_rfl) (of_decide_eq_true (by kernel_rfl)) k0 hg lt0) (trodAll_cons_mk (Below.trod laidOut (by kernel_rfl) (of_decide_eq_true (by kernel_rfl)) k1 hg lt1) trodAll_mk0)), rfl, hg.frame _, fun h => by cases h⟩

theorem proved : Rows.RepageFewSaid :=
  OpenClaim.holds_of_wide 6 Try.f6 rfl rfl rfl rfl rfl rfl rfl ⟨rfl, rfl, rfl, rfl, rfl⟩ rfl rfl rfl rfl rfl (by kernel_rfl) Try.func6 (by kernel_rfl)
    (of_decide_eq_true (by kernel_rfl)) (by unfold Func.isWrapper; first | (rw [if_pos (by decide +kernel)]; kernel_rfl) | (rw [if_neg (by decide +kernel)]; exact ⟨rfl, rfl⟩))
    (fun os started H enc _ => lifted os started H enc)
#print axioms proved
end Go.Proofs.Ytdpjaafdpgkclaa.repageFew
