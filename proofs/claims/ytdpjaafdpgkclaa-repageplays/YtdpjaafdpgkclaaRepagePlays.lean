/-
  For all lines, heights, settings and scripts RepagePlays answers true: after any calls the pages are those that the lines have from the beginning on, and what is told of each call is what the document says, or it is refused.
  No condition besides the statement's own.
-/
import Derived.Test.YtdpjaafdpgkclaaRows
import Derived.WalkKit
import Derived.ProofKit
import Derived.OpenShut
import Derived.SizedLaws
import Derived.ShutString
import Derived.ChangeOld
import Derived.Below
import Derived.Test.YtdpjaafdpgkclaaYf
import Derived.Deep.RegionWith
import Derived.Deep.RegionHeld3
import Derived.Deep.CutRange
namespace Go.Proofs.Ytdpjaafdpgkclaa.repagePlays
open Go.ChangeShapes Go.WideShapes Go.ChangeAt Go.RowKit
open Go.ChangeMaps (open_string shut_string)
set_option linter.unusedVariables false
set_option linter.unusedSimpArgs false

theorem own : ownKnob Try.prog.godebug = none := by kernel_rfl
theorem laidOut : laidOutB Try.prog = true := by kernel_rfl

set_option maxRecDepth 100000 in
set_option maxHeartbeats 16000000 in
theorem walk (w : World) (ao0 : Option Addr) (n0 cap0 : Nat) (z0 : Int) (s0 : Stg) (F0 : Nat → Slt) (hn0 : (n0 ≤ maxLen ∧ n0 ≤ cap0) ∧ (ao0 = none → cap0 = 0)) (hF0 : SltsAt (fun _ => True) w ao0 n0 F0) (hs0 : I64 z0 ∧ I64 s0.t ∧ I64 s0.l ∧ I64 s0.a ∧ I64 s0.d ∧ I64 s0.z ∧ I64 s0.o ∧ I64 s0.i) (ao1 : Option Addr) (n1 cap1 : Nat) (O1 : Nat → Op3) (hn1 : n1 ≤ maxLen) (hO1 : OpsAt3 w ao1 n1 O1) :
    Calls Try.prog 3 #[rbv ao0 n0 cap0 z0 s0, .slice ao1 n1 cap1] w fun e w' => e = .returned (.bool true) ∧ Below w.heap.size w w' := by
  obtain ⟨R, hR⟩ : ∃ R : Bool, (R = true ↔ Rts F0 n0 0) := by
    by_cases c : Rts F0 n0 0
    · exact ⟨true, by simp [c]⟩
    · exact ⟨false, by simp [c]⟩
  have hN : (n0 : Int) ≤ 9223372036854775807 := by have := hn0.1.1; unfold maxLen at this; omega
  have hN1 : (n1 : Int) ≤ 9223372036854775807 := by have := hn1; unfold maxLen at this; omega
  have hcap := hn0.1.2
  have hno0 := hn0.2
  obtain ⟨l0, l1, l2⟩ := laid1 w (.cells (rbc ao0 n0 cap0 z0 s0) 26)
  obtain ⟨W0, hW0⟩ : ∃ W0, w.alloc (.cells (rbc ao0 n0 cap0 z0 s0) 26) = W0 := ⟨_, rfl⟩
  rw [hW0] at l0 l1 l2
  have HZ0 := boxed l2
  have HXP : Box (∀ W, Below W0.heap.size W0 W → W.heap[w.heap.size]? = some (.cells (rbc ao0 n0 cap0 z0 s0) 26 (0, 0))) := boxed (fun W hb => (hb.block _ (by omega)).trans l0)
  have HB0 := boxed l1
  have HW0 := boxed hW0
  have HS0 := boxed (fun W (hb : Below W0.heap.size W0 W) => hF0.here.low (below_step HB0.out (Nat.le_refl _) hb))
  have HO1 := boxed hO1
  unfold rbc at HW0
  unfold rbv
  clear l0 l1 l2 hW0 hF0 hO1
  by_cases ht : trB n0 R z0 s0 = true
  · obtain ⟨hl, hRt, hE⟩ : n0 ≤ 150 ∧ Rts F0 n0 0 ∧ ckE z0 s0 = 0 := by
      unfold trB at ht
      simp only [Bool.and_eq_true, decide_eq_true_eq] at ht
      exact ⟨ht.1.1, hR.1 ht.1.2, (ckb_iff z0 s0).1 ht.2⟩
    have HBg := boxed (fun W (hb : Below W0.heap.size W0 W) => begun_ok _ ao0 n0 cap0 F0 z0 s0 hRt W (HS0.out W hb) hcap hl hE)
    unfold rbv at HBg
    clear hR ht hRt hE hs0 hn0
    go_enter Try.func3, Try.ntmps3
    go_upto_region 1 with fail
    rw [HW0.out]
    go_wp2_with fail
    refine (awake_any _).mono ?_
    rintro e w1 ⟨rfl, hb1⟩
    have HB1 := boxed hb1
    obtain ⟨⟨x0, x1, x2, x3, x4, x5, x6, x7, x8⟩, -⟩ := cells9 (HXP.out w1 hb1)
    clear hb1
    go_wp2_with fail
    refine (HBg.out _ HB1.out).mono ?_
    rintro e w2 ⟨p, ao, cap, so, sc, J, rfl, hBk, hb2⟩
    have HB2 := boxed (below_step HB1.out (Nat.le_refl _) hb2)
    clear x0 x1 x2 x3 x4 x5 x6 x7 x8 HBg
    obtain ⟨k0, k1, k2⟩ := laid1 w2 (.cells (rbc ao0 n0 cap0 z0 s0) 31)
    obtain ⟨w3, hw3⟩ : ∃ w3, w2.alloc (.cells (rbc ao0 n0 cap0 z0 s0) 31) = w3 := ⟨_, rfl⟩
    rw [hw3] at k0 k1 k2
    have HW3 := boxed hw3
    unfold rbc at HW3
    have hz01 := HB1.out.size
    have hz12 := hb2.size
    have HQ6 := boxed k0
    have hlt2 := hBk.lt
    obtain ⟨P6, hP6⟩ : ∃ P6, w2.heap.size = P6 := ⟨_, rfl⟩
    have hBw : w.heap.size + 1 ≤ w1.heap.size := by have := HZ0.out; omega
    have HDn3 : Box (Dn w3 w1.heap.size p ⟨F0, n0, s0.o, s0.i, z0⟩ s0 ao0 cap0 (fun b => b = P6)) := boxed ⟨ao, cap, so, sc, J, hBk.below k1, ((HS0.out w2 HB2.out).below k1).keep (fun b i u hs hc => ⟨⟨⟨by have := (hlt2 p (.inl rfl)).1; omega, fun e => by have := (hlt2 b (.inr (.inl e))).1; omega⟩, by omega⟩, hc⟩), hcap, hno0, fun b hb => by have := (hlt2 b hb).2; omega⟩
    have HB3 := boxed (Below.mono (below_step hb2 (Nat.le_refl _) k1) (Nat.le_refl _))
    have hp6 : P6 < w3.heap.size := by omega
    have hB6 : w1.heap.size ≤ P6 := by omega
    rw [hP6] at HQ6
    have HP6 := boxed hP6
    clear hw3 k0 k1 k2 hb2 hBk hlt2
    go_upto_region 4 with fail
    rw [HW3.out]
    try rw [HP6.out]
    clear hP6
    go_wp2_with fail
    go_loopw [8] (fun iv wr => ∃ (i : Nat) (D : Dc) (lo : Option Addr) (c : Nat), i ≤ n1 ∧ iv = .int .i64 (i : Nat) ∧ Box (wr.heap[P6]? = some (.cells (rbc lo D.n c D.H s0) 31 (0, 0))) ∧ Box (Dn wr w1.heap.size p D s0 lo c (fun b => b = P6)) ∧ D.n ≤ 460 ∧ Box (Below w1.heap.size w1 wr)) (fun iv _ => n1 - (intOf iv).toNat)
    case atStart => exact ⟨0, ⟨F0, n0, s0.o, s0.i, z0⟩, ao0, cap0, Nat.zero_le _, rfl, HQ6, HDn3, by show n0 ≤ 460; omega, HB3⟩
    case round =>
      obtain ⟨i, D, lo, c, hi, rfl, HQ, HDn, hn460, HB⟩ := hrel
      have hFin : ∀ W, Below w1.heap.size w1 W → Below w.heap.size w W := fun W hb => below_step HB0.out (Nat.le_refl _) (HB1.out.trans (hb.mono HB1.out.size))
      have HFin := boxed hFin
      clear hFin HQ6 HDn3 HB3 HW3
      by_cases hlt : i < n1 ∧ i < 20
      · have t0 : decide ((i : Int) < (n1 : Int)) = true := decide_eq_true (by omega)
        have t0' : decide (i < n1) = true := decide_eq_true hlt.1
        have t1 : decide ((i : Int) < 20) = true := decide_eq_true (by omega)
        have t1' : decide (i < 20) = true := decide_eq_true hlt.2
        have hiN : (i : Int) < (n1 : Int) := by omega
        obtain ⟨hop, b, off, rfl, o0, o1, o2, o3⟩ := HO1.out i hlt.1
        have hw1r : Below w.heap.size w wr := HFin.out wr HB.out
        have q0 := hold hw1r o0
        have q1 := hold hw1r o1
        have q2 := hold hw1r o2
        have q3 := hold hw1r o3
        obtain ⟨⟨x0, x1, x2, x3, x4, x5, x6, x7, x8⟩, -⟩ := cells9 HQ.out
        by_cases hbig : 60 < (O1 i).m
        · have t2 : decide ((60 : Int) < ((O1 i).m : Int)) = true := decide_eq_true (by omega)
          have t2' : decide (60 < (O1 i).m) = true := decide_eq_true hbig
          have HF := boxed hw1r
          clear hw1r
          go_wp2_with fail
          go_ret
          exact ⟨rfl, HF.out⟩
        · have t2 : decide ((60 : Int) < ((O1 i).m : Int)) = false := decide_eq_false (by omega)
          have t2' : decide (60 < (O1 i).m) = false := decide_eq_false hbig
          by_cases hbig2 : 400 < D.n
          · have t3 : decide ((400 : Int) < (D.n : Int)) = true := decide_eq_true (by omega)
            have t3' : decide (400 < D.n) = true := decide_eq_true hbig2
            have HF := boxed hw1r
            clear hw1r
            go_wp2_with fail
            go_ret
            exact ⟨rfl, HF.out⟩
          · have t3 : decide ((400 : Int) < (D.n : Int)) = false := decide_eq_false (by omega)
            have t3' : decide (400 < D.n) = false := decide_eq_false hbig2
            have hopW : ∀ W, Below w.heap.size w W → OpIs W (O1 i) ∧ SltsAt (fun b => b < w1.heap.size) W (O1 i).bo (O1 i).m (O1 i).C := fun W hb => by
              have hs := hop.C.low hb
              exact ⟨⟨hop.f, hop.d, hop.h, hop.m, hop.mc, hop.no, hs.here⟩, hs.keep (fun b i u hs hc => ⟨by omega, hc⟩)⟩
            have hzr : P6 < wr.heap.size := heap_lt HQ.out
            have hzB : w1.heap.size ≤ wr.heap.size := by omega
            have HSt := boxed (fun W (hb : Below wr.heap.size wr W) => step_any (P := fun b => b = P6 ∨ (wr.heap.size ≤ b ∧ b < W.heap.size)) (HDn.out.wide hb) (fun k hk => by have := hb.size; rcases hk with rfl | hk <;> omega) (O1 i) (hopW W (below_step (HFin.out wr HB.out) (Nat.le_refl _) hb)).1 (hopW W (below_step (HFin.out wr HB.out) (Nat.le_refl _) hb)).2 (by omega) (by omega))
            unfold rbv Op3.val at HSt
            have HOo := boxed (And.intro o0 (And.intro o1 (And.intro o2 o3)))
            have HAf : Box (∀ W, W.heap[P6]? = some (.cells (rbc lo D.n c D.H s0) 31 (0, 0)) → Below w1.heap.size w1 W → (W.cell? ⟨P6, 0, none⟩ = some (.slice lo D.n c) ∧ W.cell? ⟨P6, 1, none⟩ = some (.int .i64 D.H) ∧ W.cell? ⟨P6, 2, none⟩ = some (.int .i64 s0.t) ∧ W.cell? ⟨P6, 3, none⟩ = some (.int .i64 s0.l) ∧ W.cell? ⟨P6, 4, none⟩ = some (.int .i64 s0.a) ∧ W.cell? ⟨P6, 5, none⟩ = some (.int .i64 s0.d) ∧ W.cell? ⟨P6, 6, none⟩ = some (.int .i64 s0.z) ∧ W.cell? ⟨P6, 7, none⟩ = some (.int .i64 s0.o) ∧ W.cell? ⟨P6, 8, none⟩ = some (.int .i64 s0.i)) ∧ W.cell? ⟨b, off + i * 4, none⟩ = some (.int .i64 (O1 i).f) ∧ W.cell? ⟨b, off + i * 4 + 1, none⟩ = some (.int .i64 (O1 i).d) ∧ W.cell? ⟨b, off + i * 4 + 2, none⟩ = some (.slice (O1 i).bo (O1 i).m (O1 i).mc) ∧ W.cell? ⟨b, off + i * 4 + 3, none⟩ = some (.int .i64 (O1 i).h)) := boxed (fun W h6 hb => ⟨(cells9 h6).1, hold (HFin.out W hb) HOo.out.1, hold (HFin.out W hb) HOo.out.2.1, hold (HFin.out W hb) HOo.out.2.2.1, hold (HFin.out W hb) HOo.out.2.2.2⟩)
            have HD : Box (Below wr.heap.size wr wr.drew) := boxed (Below.refl _ _).drew
            have HDa : Box (Below wr.heap.size wr (wr.alloc (.cells #[.slice none 0 0, .int .i64 0, .int .i64 0, .int .i64 0, .int .i64 0, .int .i64 0, .int .i64 0, .int .i64 0, .int .i64 0] 31)).drew) := boxed ((Below.refl _ wr).alloc (Nat.le_refl _) _).drew
            have HDr : Box ((wr.alloc (.cells #[.slice none 0 0, .int .i64 0, .int .i64 0, .int .i64 0, .int .i64 0, .int .i64 0, .int .i64 0, .int .i64 0, .int .i64 0] 31)).drew.heap[wr.heap.size]? = some (.cells #[.slice none 0 0, .int .i64 0, .int .i64 0, .int .i64 0, .int .i64 0, .int .i64 0, .int .i64 0, .int .i64 0, .int .i64 0] 31 (0, 0))) := boxed (heap_alloc_new wr _)
            have HDz : Box (wr.heap.size < (wr.alloc (.cells #[.slice none 0 0, .int .i64 0, .int .i64 0, .int .i64 0, .int .i64 0, .int .i64 0, .int .i64 0, .int .i64 0, .int .i64 0] 31)).drew.heap.size) := boxed (by simp)
            have HAr := boxed (HAf.out wr HQ.out HB.out)
            have HAb := boxed (HAf.out (wr.alloc (.cells #[.slice none 0 0, .int .i64 0, .int .i64 0, .int .i64 0, .int .i64 0, .int .i64 0, .int .i64 0, .int .i64 0, .int .i64 0] 31)) ((((Below.refl wr.heap.size wr).alloc (Nat.le_refl _) _).block P6 hzr).trans HQ.out) (HB.out.trans (((Below.refl wr.heap.size wr).alloc (Nat.le_refl _) _).mono hzB)))
            have HAd := boxed (HAf.out wr.drew HQ.out (HB.out.trans (HD.out.mono hzB)))
            have HAa := boxed (HAf.out _ ((HDa.out.block P6 hzr).trans HQ.out) (HB.out.trans (HDa.out.mono hzB)))
            clear hw1r hopW
            go_upto_region 11 with fail
            clear x0 x1 x2 x3 x4 x5 x6 x7 x8 q0 q1 q2 q3 o0 o1 o2 o3 t0 t0' t1 t1' t2 t2' t3 t3'
            go_cut [9, 10] from 50 to 59 (fun s9 s10 wx => ∃ (D' : Dc) (lo' : Option Addr) (c' P9 : Nat), s9 = .pointer (some ⟨P9, 0, none⟩) ∧ s10 = .bool true ∧ Box (wx.heap[P9]? = some (.cells (rbc lo' D'.n c' D'.H s0) 31 (0, 0))) ∧ Box (wx.heap[P6]? = some (.cells (rbc lo D.n c D.H s0) 31 (0, 0))) ∧ P9 ≠ P6 ∧ Box (Dn wx w1.heap.size p D' s0 lo' c' (fun b => b = P6)) ∧ D'.n ≤ 460 ∧ Box (Below w1.heap.size w1 wx))
            case first =>
              go_region_held3 (fun W => (W.cell? ⟨P6, 0, none⟩ = some (.slice lo D.n c) ∧ W.cell? ⟨P6, 1, none⟩ = some (.int .i64 D.H) ∧ W.cell? ⟨P6, 2, none⟩ = some (.int .i64 s0.t) ∧ W.cell? ⟨P6, 3, none⟩ = some (.int .i64 s0.l) ∧ W.cell? ⟨P6, 4, none⟩ = some (.int .i64 s0.a) ∧ W.cell? ⟨P6, 5, none⟩ = some (.int .i64 s0.d) ∧ W.cell? ⟨P6, 6, none⟩ = some (.int .i64 s0.z) ∧ W.cell? ⟨P6, 7, none⟩ = some (.int .i64 s0.o) ∧ W.cell? ⟨P6, 8, none⟩ = some (.int .i64 s0.i)) ∧ W.cell? ⟨b, off + i * 4, none⟩ = some (.int .i64 (O1 i).f) ∧ W.cell? ⟨b, off + i * 4 + 1, none⟩ = some (.int .i64 (O1 i).d) ∧ W.cell? ⟨b, off + i * 4 + 2, none⟩ = some (.slice (O1 i).bo (O1 i).m (O1 i).mc) ∧ W.cell? ⟨b, off + i * 4 + 3, none⟩ = some (.int .i64 (O1 i).h))
                (first | with_reducible exact HAr.out | with_reducible exact HAb.out | with_reducible exact HAd.out | with_reducible exact HAa.out | with_reducible exact HA4.out | with_reducible exact HA5.out | with_reducible exact HA6.out)
                (first
                | (go_at_call 10; refine (HSt.out _ HD.out).mono ?_; rintro e w4 ⟨D', lo', c', rfl, hDn4, hn4, hb4, hP4⟩; have hE4 := (hP4 P6 (.inl rfl)).trans HQ.out; have hB4 := (HB.out.trans (HD.out.mono hzB)).trans hb4; have HA4 := boxed (HAf.out w4 hE4 hB4); have hl6 := heap_lt hE4; have hz14 : w1.heap.size ≤ w4.heap.size := (by have := hB4.size; omega); obtain ⟨-, m1, -⟩ := laid1 w4 (.cells #[.slice none 0 0, .int .i64 0, .int .i64 0, .int .i64 0, .int .i64 0, .int .i64 0, .int .i64 0, .int .i64 0, .int .i64 0] 31); have HA5 := boxed (HAf.out _ ((m1.block P6 hl6).trans hE4) (hB4.trans (m1.mono hz14))); obtain ⟨n0', n1', n2'⟩ := laid1 w4 (.cells #[.slice lo' D'.n c', .int .i64 D'.H, .int .i64 s0.t, .int .i64 s0.l, .int .i64 s0.a, .int .i64 s0.d, .int .i64 s0.z, .int .i64 s0.o, .int .i64 s0.i] 31); have hE9 := (n1'.block P6 hl6).trans hE4; have hB9 := hB4.trans (n1'.mono hz14); have HA6 := boxed (HAf.out _ hE9 hB9); have hD9 := Dn.less (P' := fun b => b = P6) ((hDn4.less (P' := fun b => b = P6) (fun b e => .inl e)).wide n1') (fun b e => .inl e); have hne9 : w4.heap.size ≠ P6 := (by omega); have HQ9 := boxed n0'; have HE9 := boxed hE9; have HB9 := boxed hB9; have HD9 := boxed hD9; clear hDn4 hb4 hP4 hE4 hB4 m1 n0' n1' n2' hE9 hB9 hD9)
                | (go_at_call 10; refine (HSt.out _ HDa.out).mono ?_; rintro e w4 ⟨D', lo', c', rfl, hDn4, hn4, hb4, hP4⟩; have hE4 := (hP4 P6 (.inl rfl)).trans ((HDa.out.block P6 hzr).trans HQ.out); have m0 := (hP4 wr.heap.size (.inr ⟨Nat.le_refl _, HDz.out⟩)).trans HDr.out; have hB4 := (HB.out.trans (HDa.out.mono hzB)).trans hb4; have HA4 := boxed (HAf.out w4 hE4 hB4); have hl6 := heap_lt hE4; have hz14 : w1.heap.size ≤ w4.heap.size := (by have := hB4.size; omega); have HA5 := HA4; obtain ⟨⟨y0, y1, y2, y3, y4, y5, y6, y7, y8⟩, z0, z1, z2, z3, z4, z5, z6, z7, z8⟩ := cells9 m0; have hg9 := put9_grown w4 wr.heap.size (.slice lo' D'.n c') (.int .i64 D'.H) (.int .i64 s0.t) (.int .i64 s0.l) (.int .i64 s0.a) (.int .i64 s0.d) (.int .i64 s0.z) (.int .i64 s0.o) (.int .i64 s0.i); have hQ9 := put9_heap m0 (.slice lo' D'.n c') (.int .i64 D'.H) (.int .i64 s0.t) (.int .i64 s0.l) (.int .i64 s0.a) (.int .i64 s0.d) (.int .i64 s0.z) (.int .i64 s0.o) (.int .i64 s0.i); have hE9 := (hg9.block P6 hl6 (by simp; omega)).trans hE4; have hB9 := hB4.trans (grown_below hg9 hzB hz14); have HA6 := boxed (HAf.out _ hE9 hB9); have hD9 := Dn.less (P' := fun b => b = P6) (hDn4.far hg9 (.inr ⟨Nat.le_refl _, HDz.out⟩)) (fun b e => .inl e); have hne9 : wr.heap.size ≠ P6 := (by omega); have HQ9 := boxed hQ9; have HE9 := boxed hE9; have HB9 := boxed hB9; have HD9 := boxed hD9; unfold put9 at HA6 HQ9 HE9 HB9 HD9; clear hDn4 hb4 hP4 hE4 hB4 m0 hg9 hQ9 hE9 hB9 hD9))
              all_goals
                go_wp2_with fail
                go_meet
                case rel => exact ⟨D', lo', c', _, rfl, rfl, HQ9, HE9, hne9, HD9, hn4, HB9⟩
            case rest =>
              obtain ⟨D', lo', c', P9, rfl, rfl, HQ9, HE9, hne9, HD9, hn4, HB9⟩ := hcut
              clear HSt HAf HD HDa HDr HDz HAd HAa HAr HAb HOo HQ HDn HB hzr hzB hop
              obtain ⟨⟨x0, x1, x2, x3, x4, x5, x6, x7, x8⟩, -⟩ := cells9 HQ9.out
              obtain ⟨⟨y0, y1, y2, y3, y4, y5, y6, y7, y8⟩, z0, z1, z2, z3, z4, z5, z6, z7, z8⟩ := cells9 HE9.out
              have hg := put9_grown wc P6 (.slice lo' D'.n c') (.int .i64 D'.H) (.int .i64 s0.t) (.int .i64 s0.l) (.int .i64 s0.a) (.int .i64 s0.d) (.int .i64 s0.z) (.int .i64 s0.o) (.int .i64 s0.i)
              have hQd := put9_heap HE9.out (.slice lo' D'.n c') (.int .i64 D'.H) (.int .i64 s0.t) (.int .i64 s0.l) (.int .i64 s0.a) (.int .i64 s0.d) (.int .i64 s0.z) (.int .i64 s0.o) (.int .i64 s0.i)
              have hDd := HD9.out.far hg rfl
              have hz1c : w1.heap.size ≤ wc.heap.size := HB9.out.size
              have hBd := HB9.out.trans (grown_below hg hB6 hz1c)
              obtain ⟨wd, hwd⟩ : ∃ wd, put9 wc P6 (.slice lo' D'.n c') (.int .i64 D'.H) (.int .i64 s0.t) (.int .i64 s0.l) (.int .i64 s0.a) (.int .i64 s0.d) (.int .i64 s0.z) (.int .i64 s0.o) (.int .i64 s0.i) = wd := ⟨_, rfl⟩
              rw [hwd] at hQd hDd hBd
              unfold put9 at hwd
              have HWd := boxed hwd
              have HQd : Box (wd.heap[P6]? = some (.cells (rbc lo' D'.n c' D'.H s0) 31 (0, 0))) := boxed hQd
              have HDd := boxed hDd
              have HBd := boxed hBd
              obtain ⟨ao', cap', so', sc', J', hBk', hsl', hcn', hno', -⟩ := HDd.out
              have HBk := boxed hBk'
              have HSl := boxed hsl'
              have hJ' := hBk'.jle
              have hpgs := boxed hBk'.pgs
              have HRp := boxed (fun W h => refpag_any D' s0 hBk'.dc (fun b => (b ≠ p ∧ (Value.slice ao' D'.n cap').ownBlock ≠ some b) ∧ ¬ b = P6) lo' c' W h)
              unfold Stg.val at HRp
              clear hg hQd hDd hBd hwd hBk' hsl'
              go_upto_region 15 with fail
              rw [HWd.out]
              clear x0 x1 x2 x3 x4 x5 x6 x7 x8 y0 y1 y2 y3 y4 y5 y6 y7 y8 z0 z1 z2 z3 z4 z5 z6 z7 z8 HQ9 HE9 HD9 HB9 HWd
              have HX : Box (∀ W, Below wd.heap.size wd W → W.cell? ⟨P6, 0, none⟩ = some (.slice lo' D'.n c') ∧ W.cell? ⟨P6, 1, none⟩ = some (.int .i64 D'.H) ∧ W.cell? ⟨P6, 2, none⟩ = some (.int .i64 s0.t) ∧ W.cell? ⟨P6, 3, none⟩ = some (.int .i64 s0.l) ∧ W.cell? ⟨P6, 4, none⟩ = some (.int .i64 s0.a) ∧ W.cell? ⟨P6, 5, none⟩ = some (.int .i64 s0.d) ∧ W.cell? ⟨P6, 6, none⟩ = some (.int .i64 s0.z) ∧ W.cell? ⟨P6, 7, none⟩ = some (.int .i64 s0.o) ∧ W.cell? ⟨P6, 8, none⟩ = some (.int .i64 s0.i)) := boxed (fun W hb => (cells9 ((hb.block _ (heap_lt HQd.out)).trans HQd.out)).1)
              have HD : Box (Below wd.heap.size wd wd.drew) := boxed (Below.refl _ _).drew
              go_region_held3 (fun W => W.cell? ⟨P6, 0, none⟩ = some (.slice lo' D'.n c') ∧ W.cell? ⟨P6, 1, none⟩ = some (.int .i64 D'.H) ∧ W.cell? ⟨P6, 2, none⟩ = some (.int .i64 s0.t) ∧ W.cell? ⟨P6, 3, none⟩ = some (.int .i64 s0.l) ∧ W.cell? ⟨P6, 4, none⟩ = some (.int .i64 s0.a) ∧ W.cell? ⟨P6, 5, none⟩ = some (.int .i64 s0.d) ∧ W.cell? ⟨P6, 6, none⟩ = some (.int .i64 s0.z) ∧ W.cell? ⟨P6, 7, none⟩ = some (.int .i64 s0.o) ∧ W.cell? ⟨P6, 8, none⟩ = some (.int .i64 s0.i))
                (first | with_reducible exact HX.out _ HD.out | with_reducible exact HX.out _ HC4.out | with_reducible exact HX.out _ HC5.out | with_reducible exact HX.out _ HC6.out | with_reducible exact HX.out _ HC7.out | with_reducible exact HX.out _ HC8.out)
                (first
                | (go_at_call 12; refine (starts_any (HBk.out.below HD.out)).mono ?_; rintro e w4 ⟨a4, k4, rfl, ho4, hb4⟩; have HC4 := boxed (below_step HD.out (Nat.le_refl _) hb4); have HO4 := boxed ho4; clear ho4 hb4)
                | (go_at_call 13; refine (HRp.out _ (HSl.out.below HC4.out)).mono ?_; rintro e w5 ⟨J5, a5', k5, rfl, hP5, hn5, hb5⟩; obtain rfl := D'.pgs_one hP5 hpgs.out; have HC5 := boxed (below_step HC4.out (Nat.le_refl _) hb5); have HO5 := boxed (owns_below HO4.out hb5); have HN5 := boxed hn5; clear hP5 hn5 hb5)
                | (go_at_call 11; refine (same_yes _ _ a4 a5' _ k4 k5 _ (Dc.its_len _ _) w5 (own_nat HO5.out (Dc.its_len _ _)) HN5.out (by omega) (its_small HBk.out)).mono ?_; rintro e w6 ⟨rfl, hb6⟩; have HC6 := boxed (below_step HC5.out (Nat.le_refl _) hb6); clear hb6)
                | (go_at_call 15; refine (slots_any (HBk.out.below HC6.out)).mono ?_; rintro e w7 ⟨a7', k7, rfl, ho7, hb7⟩; have HC7 := boxed (below_step HC6.out (Nat.le_refl _) hb7); have HO7 := boxed (own_slts ho7 HBk.out.i64); clear ho7 hb7)
                | (go_at_call 14; refine (same13_yes _ _ a7' lo' D'.n k7 c' D'.F w7 HO7.out (HSl.out.below HC7.out) (by omega)).mono ?_; rintro e w8 ⟨rfl, hb8⟩; have HC8 := boxed (below_step HC7.out (Nat.le_refl _) hb8); clear hb8)
                | (go_at_call 16; refine (lines_any (HBk.out.below HC8.out)).mono ?_; rintro e w9 ⟨rfl, hw9⟩; subst hw9)
                | (go_at_call 17; refine (height_any (HBk.out.below HC8.out)).mono ?_; rintro e w10 ⟨rfl, hw10⟩; subst hw10))
              all_goals
                have HBe := boxed (HBd.out.trans (HC8.out.mono HBd.out.size))
                have HDe := boxed (HDd.out.below HC8.out)
                have HQe := boxed ((HC8.out.block _ (heap_lt HQd.out)).trans HQd.out)
                go_wp2_with fail
                go_roundw
                case rel => exact ⟨i + 1, D', lo', c', by omega, by go_num, HQe, HDe, hn4, HBe⟩
                case measure => simp [intOf]; omega
      · have HF := boxed (HFin.out wr HB.out)
        by_cases h1 : i < n1
        · have t0 : decide ((i : Int) < (n1 : Int)) = true := decide_eq_true (by omega)
          have t0' : decide (i < n1) = true := decide_eq_true h1
          have t1 : decide ((i : Int) < 20) = false := decide_eq_false (by omega)
          have t1' : decide (i < 20) = false := decide_eq_false (by omega)
          go_wp2_with fail
          go_ret
          exact ⟨rfl, HF.out⟩
        · have t0 : decide ((i : Int) < (n1 : Int)) = false := decide_eq_false (by omega)
          have t0' : decide (i < n1) = false := decide_eq_false h1
          go_wp2_with fail
          go_ret
          exact ⟨rfl, HF.out⟩
  · have ht' : trB n0 R z0 s0 = false := by simpa using ht
    have HBg := boxed (fun W (hb : Below W0.heap.size W0 W) => begun_no _ ao0 n0 cap0 F0 z0 s0 R hR W (HS0.out W hb) ht')
    unfold rbv at HBg
    clear hR ht ht' hs0 hn0
    go_enter Try.func3, Try.ntmps3
    go_upto_region 1 with fail
    rw [HW0.out]
    go_wp2_with fail
    refine (awake_any _).mono ?_
    rintro e w1 ⟨rfl, hb1⟩
    have HB1 := boxed hb1
    obtain ⟨⟨x0, x1, x2, x3, x4, x5, x6, x7, x8⟩, -⟩ := cells9 (HXP.out w1 hb1)
    clear hb1
    go_wp2_with fail
    refine (HBg.out _ HB1.out).mono ?_
    rintro e w2 ⟨rfl, hb2⟩
    have HB2 := boxed (below_step HB0.out (Nat.le_refl _) (below_step HB1.out (Nat.le_refl _) hb2))
    clear x0 x1 x2 x3 x4 x5 x6 x7 x8 hb2 HBg
    obtain ⟨w3, hw3⟩ : ∃ w3, w2.alloc (.cells (rbc ao0 n0 cap0 z0 s0) 31) = w3 := ⟨_, rfl⟩
    have HB3 : Box (Below w.heap.size w w3) := boxed (by rw [← hw3]; exact HB2.out.alloc (by have := HB2.out.size; omega) _)
    have HW3 := boxed hw3
    unfold rbc at HW3
    clear hw3
    go_upto_region 4 with fail
    rw [HW3.out]
    go_wp2_with fail
    go_ret
    exact ⟨rfl, HB3.out⟩

set_option maxRecDepth 100000 in
theorem lifted (os : Os) (started : os.Started) (H : Type) (enc : TypeId × Value → H) :
    ReturnsInHanded {} Try.checked os 3 .any (Rows.repagePlaysSpec.pre6 enc Try.prog Try.f3 Rows.repagePlaysRow.domain false) (Rows.repagePlaysSpec.post enc Try.prog Try.f3 false true false false) := by
  refine returnsInHanded_of_change_sized (C := Try.checked) own started (by kernel_rfl) Try.func3
    (ChangeSpec.witness6 (enc := enc) (C := Try.checked) false ⟨#[], #[.agg #[.slice none 0 0, .int .i64 0, .int .i64 0, .int .i64 0, .int .i64 0, .int .i64 0, .int .i64 0, .int .i64 0, .int .i64 0], .slice none 0 0], []⟩ 8 (by kernel_rfl) (by kernel_rfl) (by kernel_rfl) (by kernel_rfl)) ?_
  intro W base args ds gs before hval0 hW hcnd hsz0 _
  have hval : ∀ (j : Nat) t v, Try.f3.params[j]? = some t → args[j]? = some v → Value.okWide Try.prog W .any base t v := hval0
  have hsz : (DataW.weightsEach Try.prog (Try.f3.params.toList ++ Rows.repagePlaysSpec.plain.varTypes Try.prog) (ds ++ gs)).all (· ≤ reachBytes) = true := hsz0
  have hW' := hW
  obtain ⟨p, q, hA0, hV, rfl, hfz, hnd⟩ := hW
  have hA : DataW.TrodAll enc Try.prog W 0 (fun _ => true) true Try.f3.params.toList args.toList ds p := hA0
  rw [Try.params3] at hA hval hsz
  obtain ⟨v0, vs0, d0, ds0, p0, q0, hargs, rfl, rfl, h0, r0⟩ := trodAll_cons hA
  obtain ⟨v1, vs1, d1, ds1, p1, q1, rfl, rfl, rfl, h1, r1⟩ := trodAll_cons r0
  obtain ⟨rfl, rfl, rfl⟩ := trodAll_nil r1
  obtain rfl : args = #[v0, v1] := by cases args; simp_all
  obtain ⟨rfl, rfl⟩ := trodVars_none hV
  have k0 := h0
  have lt0 : ∀ x ∈ p0, x.block < W.heap.size := by obtain ⟨m, hm⟩ := k0; exact DataW.trod_lt m _ _ _ hm
  obtain ⟨ao0, n0, cap0, z0, s0, F0, rfl, hn0, hF0, hs0⟩ : ∃ (ao : Option Addr) (n cap : Nat) (z : Int) (s : Stg) (F : Nat → Slt), v0 = rbv ao n cap z s ∧ ((n ≤ maxLen ∧ n ≤ cap) ∧ (ao = none → cap = 0)) ∧ SltsAt (fun _ => True) W ao n F ∧ I64 z ∧ I64 s.t ∧ I64 s.l ∧ I64 s.a ∧ I64 s.d ∧ I64 s.z ∧ I64 s.o ∧ I64 s.i := by
    obtain ⟨fuel, hf⟩ := k0
    exact start_value hf
  obtain ⟨ao1, n1, cap1, rfl⟩ := okWide_slice Try.underlying27 (hval 1 27 v1 rfl rfl)
  have k1 := h1
  have lt1 : ∀ x ∈ p1, x.block < W.heap.size := by obtain ⟨m, hm⟩ := k1; exact DataW.trod_lt m _ _ _ hm
  obtain ⟨hn1, O1, hO1⟩ : n1 ≤ maxLen ∧ ∃ O, OpsAt3 W ao1 n1 O := by
    obtain ⟨fuel, hf⟩ := k1
    exact open_ops3 hf
  clear hA0 hval0
  refine (walk W ao0 n0 cap0 z0 s0 F0 hn0 hF0 hs0 ao1 n1 cap1 O1 hn1 hO1).mono fun e W' ⟨he, hg⟩ => ?_
  subst he
  exact ⟨_, rfl, _, _, _, [], _, [], hW', trodAll_mk1 (shut_bool Try.underlying4 _), (trodAll_cons_mk (Below.trod laidOut (by kernel_rfl) (of_decide_eq_true (by kernel_rfl)) k0 hg lt0) (trodAll_cons_mk (Below.trod laidOut (by kernel_rfl) (of_decide_eq_true (by kernel_rfl)) k1 hg lt1) trodAll_mk0)), rfl, hg.frame _, fun h => by cases h⟩

theorem proved : Rows.RepagePlaysSaid :=
  OpenClaim.holds_of_wide 3 Try.f3 rfl rfl rfl rfl rfl rfl rfl ⟨rfl, rfl, rfl, rfl, rfl⟩ rfl rfl rfl rfl rfl (by kernel_rfl) Try.func3 (by kernel_rfl)
    (of_decide_eq_true (by kernel_rfl)) (by unfold Func.isWrapper; first | (rw [if_pos (by decide +kernel)]; kernel_rfl) | (rw [if_neg (by decide +kernel)]; exact ⟨rfl, rfl⟩))
    (fun os started H enc _ => lifted os started H enc)
#print axioms proved
end Go.Proofs.Ytdpjaafdpgkclaa.repagePlays
