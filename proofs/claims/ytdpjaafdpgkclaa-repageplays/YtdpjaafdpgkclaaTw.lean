/-
  What the statements' own begun answers.
-/
import Derived.Test.YtdpjaafdpgkclaaTv
namespace Go.Proofs.Ytdpjaafdpgkclaa
open Go.RowKit
set_option linter.unusedSimpArgs false
set_option linter.unusedVariables false

theorem ckb_iff (H : Int) (g : Stg) : ckB H g = true ↔ ckE H g = 0 := by
  unfold ckB ckE
  simp only [Bool.and_eq_true, decide_eq_true_eq]
  constructor
  · rintro ⟨⟨h1, h2⟩, h3⟩
    rw [if_pos ⟨h1, h2⟩, if_pos h3]
  · intro h
    split at h
    · next q =>
      split at h
      · next r => exact ⟨q, r⟩
      · omega
    · omega
/-- Lines, a height and settings that are tried. -/
def trB (n : Nat) (R : Bool) (H : Int) (g : Stg) : Bool := decide (n ≤ 150) && R && ckB H g
theorem drew_heap {w : World} {g : Nat} {o : Obj} (h : w.heap[g]? = some o) : w.drew.heap[g]? = some o := h
theorem bk_down {w : World} {B B' p : Nat} {ao : Option Addr} {cap : Nat} {so : Option Addr} {sc : Nat} {D : Dc} {g : Stg} {J : Nat} (h : BkC w B p ao cap so sc D g J) (hB : B' ≤ B) : BkC w B' p ao cap so sc D g J :=
  ⟨h.row, own_down h.own hB, h.npl, own_down h.st hB, h.nps, Nat.le_trans hB h.Bp, h.pgs, h.dc, h.ck, h.rts⟩
theorem bk_drew {w : World} {B p : Nat} {ao : Option Addr} {cap : Nat} {so : Option Addr} {sc : Nat} {D : Dc} {g : Stg} {J : Nat} (h : BkC w B p ao cap so sc D g J) : BkC w.drew B p ao cap so sc D g J := h.keep (fun _ _ => rfl)
set_option maxRecDepth 100000 in
set_option maxHeartbeats 8000000 in
theorem begun_no (S : Nat → Prop) (lo : Option Addr) (n c : Nat) (F : Nat → Slt) (H : Int) (g : Stg) (R : Bool) (hR : R = true ↔ Rts F n 0) (w : World) (h : SltsAt S w lo n F) (ht : trB n R H g = false) :
    Calls Try.prog 9 #[rbv lo n c H g] w fun e w' => e = .returned (.tuple #[.pointer none, rbv lo n c H g, .bool false]) ∧ Below w.heap.size w w' := by
  obtain ⟨l0, l1, l2, l3⟩ := laid2 w (.cells (rbc lo n c H g) 26) (.cells #[.slice none 0 0, .int .i64 0, .int .i64 0, .int .i64 0, .int .i64 0, .int .i64 0, .int .i64 0, .int .i64 0, .int .i64 0] 31)
  obtain ⟨W0, hW0⟩ : ∃ W0, (w.alloc (.cells (rbc lo n c H g) 26)).alloc (.cells #[.slice none 0 0, .int .i64 0, .int .i64 0, .int .i64 0, .int .i64 0, .int .i64 0, .int .i64 0, .int .i64 0, .int .i64 0] 31) = W0 := ⟨_, rfl⟩
  rw [hW0] at l0 l1 l2 l3
  obtain ⟨k0, k1, k2⟩ := laid1 W0 (.cells (rbc lo n c H g) 31)
  obtain ⟨W1, hW1⟩ : ∃ W1, W0.alloc (.cells (rbc lo n c H g) 31) = W1 := ⟨_, rfl⟩
  rw [hW1] at k0 k1 k2
  rw [l3] at k0 k2
  obtain ⟨⟨x0, x1, x2, x3, x4, x5, x6, x7, x8⟩, -⟩ := cells9 l0
  have HW0 := boxed hW0
  have HW1 := boxed hW1
  have HBw := boxed (below_step l2 (Nat.le_refl _) k1)
  have HX : Box (∀ W, Below W1.heap.size W1 W → (W.heap[w.heap.size]? = some (.cells (rbc lo n c H g) 26 (0, 0))) ∧ (W.heap[w.heap.size + 1]? = some (.cells #[.slice none 0 0, .int .i64 0, .int .i64 0, .int .i64 0, .int .i64 0, .int .i64 0, .int .i64 0, .int .i64 0, .int .i64 0] 31 (0, 0))) ∧ W.heap[w.heap.size + 2]? = some (.cells (rbc lo n c H g) 31 (0, 0)) ∧ Below w.heap.size w W) := boxed (fun W hb => ⟨(hb.block _ (by omega)).trans ((k1.block _ (by omega)).trans l0), (hb.block _ (by omega)).trans ((k1.block _ (by omega)).trans l1), (hb.block _ (by omega)).trans k0, below_step HBw.out (Nat.le_refl _) hb⟩)
  have HS := boxed (fun W (hb : Below W1.heap.size W1 W) => h.below (HX.out W hb).2.2.2)
  have HZ1 := boxed k2
  have HZ0 := boxed l3
  clear k0 k1 k2 l0 l1 l2 hW1 hW0
  unfold rbc at HW0 HW1
  unfold rbv
  by_cases hn : n ≤ 150
  · have t1 : decide ((150 : Int) < (n : Int)) = false := decide_eq_false (by omega)
    have t1' : decide (150 < n) = false := decide_eq_false (by omega)
    have hr := refright_any S lo n c F R hR W1 (HS.out W1 (Below.refl _ _)) (by omega)
    obtain ⟨q0, -, -, -⟩ := HX.out W1 (Below.refl _ _)
    obtain ⟨⟨u0, u1, u2, u3, u4, u5, u6, u7, u8⟩, -⟩ := cells9 q0
    cases R with
    | false =>
      clear hR ht h
      go_enter Try.func9, Try.ntmps9
      go_upto_region 1 with fail
      rw [HW0.out]
      go_upto_region 2 with fail
      rw [HW1.out]
      go_wp2_with fail
      refine hr.mono ?_
      rintro e w2 ⟨rfl, hb2⟩
      have HB2 := boxed hb2
      clear hb2 hr u0 u1 u2 u3 u4 u5 u6 u7 u8 q0 x0 x1 x2 x3 x4 x5 x6 x7 x8
      obtain ⟨r0, r1, r2, r3⟩ := HX.out _ HB2.out
      obtain ⟨⟨p0, p1, p2, p3, p4, p5, p6, p7, p8⟩, -⟩ := cells9 r2
      obtain ⟨⟨y0, y1, y2, y3, y4, y5, y6, y7, y8⟩, z0, z1, z2, z3, z4, z5, z6, z7, z8⟩ := cells9 r1
      have HRr := drew_heap (put9_heap r1 (.slice lo n c) (.int .i64 H) (.int .i64 g.t) (.int .i64 g.l) (.int .i64 g.a) (.int .i64 g.d) (.int .i64 g.z) (.int .i64 g.o) (.int .i64 g.i))
      have HGr := put9_grown w2 (w.heap.size + 1) (.slice lo n c) (.int .i64 H) (.int .i64 g.t) (.int .i64 g.l) (.int .i64 g.a) (.int .i64 g.d) (.int .i64 g.z) (.int .i64 g.o) (.int .i64 g.i)
      have HFr := (r3.trans (grown_below HGr (by omega) r3.size)).drew
      obtain ⟨W9, hW9⟩ : ∃ W9, (put9 w2 (w.heap.size + 1) (.slice lo n c) (.int .i64 H) (.int .i64 g.t) (.int .i64 g.l) (.int .i64 g.a) (.int .i64 g.d) (.int .i64 g.z) (.int .i64 g.o) (.int .i64 g.i)).drew = W9 := ⟨_, rfl⟩
      rw [hW9] at HRr HFr
      unfold put9 at hW9
      replace HRr := boxed HRr
      replace HFr := boxed HFr
      have HW9 := boxed hW9
      clear r0 r1 r2 r3 HGr hW9
      go_wp2_with fail
      go_region
      rw [HW9.out]
      clear y0 y1 y2 y3 y4 y5 y6 y7 y8 z0 z1 z2 z3 z4 z5 z6 z7 z8 p0 p1 p2 p3 p4 p5 p6 p7 p8
      go_wp2_with fail
      refine bodyPost_ret (v := .tuple #[.pointer none, .agg #[.slice lo n c, .int .i64 H, .int .i64 g.t, .int .i64 g.l, .int .i64 g.a, .int .i64 g.d, .int .i64 g.z, .int .i64 g.o, .int .i64 g.i], .bool false]) ?_ ?_ ?_
      · exact results_tmp_row_tmp Try.results9 _ _ (w.heap.size + 1) 31 _ (0, 0) _ rfl HRr.out Try.underlying31 rfl (by kernel_rfl)
      · rfl
      · exact ⟨rfl, HFr.out⟩
    | true =>
      have hck : ckB H g = false := by
        unfold trB at ht
        rw [decide_eq_true hn] at ht
        simpa using ht
      have hc := fun W => refcheck_any H g W
      rw [hck] at hc
      unfold Stg.val at hc
      clear hR ht h hck
      go_enter Try.func9, Try.ntmps9
      go_upto_region 1 with fail
      rw [HW0.out]
      go_upto_region 2 with fail
      rw [HW1.out]
      go_wp2_with fail
      refine hr.mono ?_
      rintro e w2 ⟨rfl, hb2⟩
      have HB2 := boxed hb2
      clear hb2 hr u0 u1 u2 u3 u4 u5 u6 u7 u8 q0 x0 x1 x2 x3 x4 x5 x6 x7 x8
      obtain ⟨q0, -, -, -⟩ := HX.out w2 HB2.out
      obtain ⟨⟨u0, u1, u2, u3, u4, u5, u6, u7, u8⟩, -⟩ := cells9 q0
      go_wp2_with fail
      refine (hc _).mono ?_
      rintro e w3 ⟨rfl, hb3⟩
      have HB3 := boxed (below_step HB2.out (Nat.le_refl _) hb3)
      clear hb3 hc u0 u1 u2 u3 u4 u5 u6 u7 u8 q0
      obtain ⟨r0, r1, r2, r3⟩ := HX.out _ HB3.out
      obtain ⟨⟨p0, p1, p2, p3, p4, p5, p6, p7, p8⟩, -⟩ := cells9 r2
      obtain ⟨⟨y0, y1, y2, y3, y4, y5, y6, y7, y8⟩, z0, z1, z2, z3, z4, z5, z6, z7, z8⟩ := cells9 r1
      have HRr := drew_heap (put9_heap r1 (.slice lo n c) (.int .i64 H) (.int .i64 g.t) (.int .i64 g.l) (.int .i64 g.a) (.int .i64 g.d) (.int .i64 g.z) (.int .i64 g.o) (.int .i64 g.i))
      have HGr := put9_grown w3 (w.heap.size + 1) (.slice lo n c) (.int .i64 H) (.int .i64 g.t) (.int .i64 g.l) (.int .i64 g.a) (.int .i64 g.d) (.int .i64 g.z) (.int .i64 g.o) (.int .i64 g.i)
      have HFr := (r3.trans (grown_below HGr (by omega) r3.size)).drew
      obtain ⟨W9, hW9⟩ : ∃ W9, (put9 w3 (w.heap.size + 1) (.slice lo n c) (.int .i64 H) (.int .i64 g.t) (.int .i64 g.l) (.int .i64 g.a) (.int .i64 g.d) (.int .i64 g.z) (.int .i64 g.o) (.int .i64 g.i)).drew = W9 := ⟨_, rfl⟩
      rw [hW9] at HRr HFr
      unfold put9 at hW9
      replace HRr := boxed HRr
      replace HFr := boxed HFr
      have HW9 := boxed hW9
      clear r0 r1 r2 r3 HGr hW9
      go_wp2_with fail
      go_region
      rw [HW9.out]
      clear y0 y1 y2 y3 y4 y5 y6 y7 y8 z0 z1 z2 z3 z4 z5 z6 z7 z8 p0 p1 p2 p3 p4 p5 p6 p7 p8
      go_wp2_with fail
      refine bodyPost_ret (v := .tuple #[.pointer none, .agg #[.slice lo n c, .int .i64 H, .int .i64 g.t, .int .i64 g.l, .int .i64 g.a, .int .i64 g.d, .int .i64 g.z, .int .i64 g.o, .int .i64 g.i], .bool false]) ?_ ?_ ?_
      · exact results_tmp_row_tmp Try.results9 _ _ (w.heap.size + 1) 31 _ (0, 0) _ rfl HRr.out Try.underlying31 rfl (by kernel_rfl)
      · rfl
      · exact ⟨rfl, HFr.out⟩
  · have t1 : decide ((150 : Int) < (n : Int)) = true := decide_eq_true (by omega)
    have t1' : decide (150 < n) = true := decide_eq_true (by omega)
    obtain ⟨q0, -, -, -⟩ := HX.out W1 (Below.refl _ _)
    obtain ⟨⟨u0, u1, u2, u3, u4, u5, u6, u7, u8⟩, -⟩ := cells9 q0
    go_enter Try.func9, Try.ntmps9
    go_upto_region 1 with fail
    rw [HW0.out]
    go_upto_region 2 with fail
    rw [HW1.out]
    obtain ⟨r0, r1, r2, r3⟩ := HX.out _ (Below.refl _ _)
    obtain ⟨⟨p0, p1, p2, p3, p4, p5, p6, p7, p8⟩, -⟩ := cells9 r2
    obtain ⟨⟨y0, y1, y2, y3, y4, y5, y6, y7, y8⟩, z0, z1, z2, z3, z4, z5, z6, z7, z8⟩ := cells9 r1
    have HRr := drew_heap (put9_heap r1 (.slice lo n c) (.int .i64 H) (.int .i64 g.t) (.int .i64 g.l) (.int .i64 g.a) (.int .i64 g.d) (.int .i64 g.z) (.int .i64 g.o) (.int .i64 g.i))
    have HGr := put9_grown W1 (w.heap.size + 1) (.slice lo n c) (.int .i64 H) (.int .i64 g.t) (.int .i64 g.l) (.int .i64 g.a) (.int .i64 g.d) (.int .i64 g.z) (.int .i64 g.o) (.int .i64 g.i)
    have HFr := (r3.trans (grown_below HGr (by omega) r3.size)).drew
    obtain ⟨W9, hW9⟩ : ∃ W9, (put9 W1 (w.heap.size + 1) (.slice lo n c) (.int .i64 H) (.int .i64 g.t) (.int .i64 g.l) (.int .i64 g.a) (.int .i64 g.d) (.int .i64 g.z) (.int .i64 g.o) (.int .i64 g.i)).drew = W9 := ⟨_, rfl⟩
    rw [hW9] at HRr HFr
    unfold put9 at hW9
    replace HRr := boxed HRr
    replace HFr := boxed HFr
    have HW9 := boxed hW9
    clear r0 r1 r2 r3 HGr hW9
    go_wp2_with fail
    go_region
    rw [HW9.out]
    clear y0 y1 y2 y3 y4 y5 y6 y7 y8 z0 z1 z2 z3 z4 z5 z6 z7 z8 p0 p1 p2 p3 p4 p5 p6 p7 p8
    go_wp2_with fail
    refine bodyPost_ret (v := .tuple #[.pointer none, .agg #[.slice lo n c, .int .i64 H, .int .i64 g.t, .int .i64 g.l, .int .i64 g.a, .int .i64 g.d, .int .i64 g.z, .int .i64 g.o, .int .i64 g.i], .bool false]) ?_ ?_ ?_
    · exact results_tmp_row_tmp Try.results9 _ _ (w.heap.size + 1) 31 _ (0, 0) _ rfl HRr.out Try.underlying31 rfl (by kernel_rfl)
    · rfl
    · exact ⟨rfl, HFr.out⟩
set_option maxRecDepth 100000 in
set_option maxHeartbeats 8000000 in
theorem begun_ok (S : Nat → Prop) (lo : Option Addr) (n c : Nat) (F : Nat → Slt) (H : Int) (g : Stg) (hR : Rts F n 0) (w : World) (h : SltsAt S w lo n F) (hcap : n ≤ c) (hn : n ≤ 150) (hE : ckE H g = 0) :
    Calls Try.prog 9 #[rbv lo n c H g] w fun e w' => ∃ p ao cap so sc J, e = .returned (.tuple #[.pointer (some ⟨p, 0, none⟩), rbv lo n c H g, .bool true]) ∧ BkC w' w.heap.size p ao cap so sc ⟨F, n, g.o, g.i, H⟩ g J ∧ Below w.heap.size w w' := by
  obtain ⟨l0, l1, l2, l3⟩ := laid2 w (.cells (rbc lo n c H g) 26) (.cells #[.slice none 0 0, .int .i64 0, .int .i64 0, .int .i64 0, .int .i64 0, .int .i64 0, .int .i64 0, .int .i64 0, .int .i64 0] 31)
  obtain ⟨W0, hW0⟩ : ∃ W0, (w.alloc (.cells (rbc lo n c H g) 26)).alloc (.cells #[.slice none 0 0, .int .i64 0, .int .i64 0, .int .i64 0, .int .i64 0, .int .i64 0, .int .i64 0, .int .i64 0, .int .i64 0] 31) = W0 := ⟨_, rfl⟩
  rw [hW0] at l0 l1 l2 l3
  obtain ⟨k0, k1, k2⟩ := laid1 W0 (.cells (rbc lo n c H g) 31)
  obtain ⟨W1, hW1⟩ : ∃ W1, W0.alloc (.cells (rbc lo n c H g) 31) = W1 := ⟨_, rfl⟩
  rw [hW1] at k0 k1 k2
  rw [l3] at k0 k2
  obtain ⟨⟨x0, x1, x2, x3, x4, x5, x6, x7, x8⟩, -⟩ := cells9 l0
  have HW0 := boxed hW0
  have HW1 := boxed hW1
  have HBw := boxed (below_step l2 (Nat.le_refl _) k1)
  have HX : Box (∀ W, Below W1.heap.size W1 W → (W.heap[w.heap.size]? = some (.cells (rbc lo n c H g) 26 (0, 0))) ∧ (W.heap[w.heap.size + 1]? = some (.cells #[.slice none 0 0, .int .i64 0, .int .i64 0, .int .i64 0, .int .i64 0, .int .i64 0, .int .i64 0, .int .i64 0, .int .i64 0] 31 (0, 0))) ∧ W.heap[w.heap.size + 2]? = some (.cells (rbc lo n c H g) 31 (0, 0)) ∧ Below w.heap.size w W) := boxed (fun W hb => ⟨(hb.block _ (by omega)).trans ((k1.block _ (by omega)).trans l0), (hb.block _ (by omega)).trans ((k1.block _ (by omega)).trans l1), (hb.block _ (by omega)).trans k0, below_step HBw.out (Nat.le_refl _) hb⟩)
  have HS := boxed (fun W (hb : Below W1.heap.size W1 W) => h.below (HX.out W hb).2.2.2)
  have HZ1 := boxed k2
  have HZ0 := boxed l3
  clear k0 k1 k2 l0 l1 l2 hW1 hW0
  unfold rbc at HW0 HW1
  unfold rbv
  have t1 : decide ((150 : Int) < (n : Int)) = false := decide_eq_false (by omega)
  have t1' : decide (150 < n) = false := decide_eq_false (by omega)
  have hr := refright_any S lo n c F true (by simp [hR]) W1 (HS.out W1 (Below.refl _ _)) (by omega)
  have hc := fun W => refcheck_any H g W
  rw [(ckb_iff H g).2 hE] at hc
  have HNw := boxed (fun W (hb : Below W1.heap.size W1 W) => new_ok ⟨F, n, g.o, g.i, H⟩ g (dcok_of hE hR (by omega)) hE hR S lo c W (HS.out W hb) hcap)
  simp only at HNw
  unfold Stg.val at hc HNw
  clear hR h hE
  obtain ⟨q0, -, -, -⟩ := HX.out W1 (Below.refl _ _)
  obtain ⟨⟨u0, u1, u2, u3, u4, u5, u6, u7, u8⟩, -⟩ := cells9 q0
  go_enter Try.func9, Try.ntmps9
  go_upto_region 1 with fail
  rw [HW0.out]
  go_upto_region 2 with fail
  rw [HW1.out]
  go_wp2_with fail
  refine hr.mono ?_
  rintro e w2 ⟨rfl, hb2⟩
  have HB2 := boxed hb2
  clear hb2 hr u0 u1 u2 u3 u4 u5 u6 u7 u8 q0 x0 x1 x2 x3 x4 x5 x6 x7 x8
  obtain ⟨q0, -, -, -⟩ := HX.out w2 HB2.out
  obtain ⟨⟨u0, u1, u2, u3, u4, u5, u6, u7, u8⟩, -⟩ := cells9 q0
  go_wp2_with fail
  refine (hc _).mono ?_
  rintro e w3 ⟨rfl, hb3⟩
  have HB3 := boxed (below_step HB2.out (Nat.le_refl _) hb3)
  clear hb3 hc u0 u1 u2 u3 u4 u5 u6 u7 u8 q0
  obtain ⟨q0, -, -, -⟩ := HX.out w3 HB3.out
  obtain ⟨⟨u0, u1, u2, u3, u4, u5, u6, u7, u8⟩, -⟩ := cells9 q0
  go_wp2_with fail
  refine (HNw.out _ HB3.out).mono ?_
  rintro e w4 ⟨p, ao, cap, so, sc, J, rfl, hBk, hb4⟩
  have HB4 := boxed (below_step HB3.out (Nat.le_refl _) hb4)
  have HBk := boxed hBk
  have hz3 : w.heap.size + 3 ≤ w3.heap.size := by have := HB3.out.size; have := HZ1.out; omega
  clear hb4 hBk HNw u0 u1 u2 u3 u4 u5 u6 u7 u8 q0
  obtain ⟨r0, r1, r2, r3⟩ := HX.out _ HB4.out
  obtain ⟨⟨p0, p1, p2, p3, p4, p5, p6, p7, p8⟩, -⟩ := cells9 r2
  obtain ⟨⟨y0, y1, y2, y3, y4, y5, y6, y7, y8⟩, z0, z1, z2, z3, z4, z5, z6, z7, z8⟩ := cells9 r1
  have HRr := drew_heap (put9_heap r1 (.slice lo n c) (.int .i64 H) (.int .i64 g.t) (.int .i64 g.l) (.int .i64 g.a) (.int .i64 g.d) (.int .i64 g.z) (.int .i64 g.o) (.int .i64 g.i))
  have HGr := put9_grown w4 (w.heap.size + 1) (.slice lo n c) (.int .i64 H) (.int .i64 g.t) (.int .i64 g.l) (.int .i64 g.a) (.int .i64 g.d) (.int .i64 g.z) (.int .i64 g.o) (.int .i64 g.i)
  have HKr : BkC _ w.heap.size p ao cap so sc ⟨F, n, g.o, g.i, H⟩ g J := bk_drew (bk_down (HBk.out.keep (w' := put9 w4 (w.heap.size + 1) (.slice lo n c) (.int .i64 H) (.int .i64 g.t) (.int .i64 g.l) (.int .i64 g.a) (.int .i64 g.d) (.int .i64 g.z) (.int .i64 g.o) (.int .i64 g.i)) (fun b hb => HGr.block b (HBk.out.lt b hb).2 (fun e => by have := (HBk.out.lt b hb).1; simp at e; omega))) (show w.heap.size ≤ w3.heap.size by omega))
  have HFr := (r3.trans (grown_below HGr (by omega) r3.size)).drew
  obtain ⟨W9, hW9⟩ : ∃ W9, (put9 w4 (w.heap.size + 1) (.slice lo n c) (.int .i64 H) (.int .i64 g.t) (.int .i64 g.l) (.int .i64 g.a) (.int .i64 g.d) (.int .i64 g.z) (.int .i64 g.o) (.int .i64 g.i)).drew = W9 := ⟨_, rfl⟩
  rw [hW9] at HRr HFr HKr
  unfold put9 at hW9
  replace HRr := boxed HRr
  replace HFr := boxed HFr
  replace HKr := boxed HKr
  have HW9 := boxed hW9
  clear r0 r1 r2 r3 HGr hW9
  go_wp2_with fail
  go_region
  rw [HW9.out]
  clear y0 y1 y2 y3 y4 y5 y6 y7 y8 z0 z1 z2 z3 z4 z5 z6 z7 z8 p0 p1 p2 p3 p4 p5 p6 p7 p8
  go_wp2_with fail
  refine bodyPost_ret (v := .tuple #[.pointer (some ⟨p, 0, none⟩), .agg #[.slice lo n c, .int .i64 H, .int .i64 g.t, .int .i64 g.l, .int .i64 g.a, .int .i64 g.d, .int .i64 g.z, .int .i64 g.o, .int .i64 g.i], .bool true]) ?_ ?_ ?_
  · exact results_tmp_row_tmp Try.results9 _ _ (w.heap.size + 1) 31 _ (0, 0) _ rfl HRr.out Try.underlying31 rfl (by kernel_rfl)
  · rfl
  · exact ⟨p, ao, cap, so, sc, J, rfl, HKr.out, HFr.out⟩
end Go.Proofs.Ytdpjaafdpgkclaa
