/-
  A call at both books: what the statements' own step answers.
-/
import Derived.Test.YtdpjaafdpgkclaaTz
namespace Go.Proofs.Ytdpjaafdpgkclaa
open Go.RowKit
set_option linter.unusedSimpArgs false
set_option linter.unusedVariables false

/-- The program's book, and the lines of the document's beside it. -/
def Dn (w : World) (B p : Nat) (D : Dc) (g : Stg) (lo : Option Addr) (c : Nat) (P : Nat → Prop) : Prop :=
  ∃ ao cap so sc J, BkC w B p ao cap so sc D g J ∧ SltsAt (fun b => (b ≠ p ∧ (Value.slice ao D.n cap).ownBlock ≠ some b) ∧ ¬ P b) w lo D.n D.F ∧ D.n ≤ c ∧ (lo = none → c = 0) ∧ ∀ b, (b = p ∨ (Value.slice ao D.n cap).ownBlock = some b ∨ (Value.slice so J sc).ownBlock = some b) → ¬ P b
theorem Dn.below {w w' : World} {B p : Nat} {D : Dc} {g : Stg} {lo : Option Addr} {c : Nat} {P : Nat → Prop} (h : Dn w B p D g lo c P) (hb : Below w.heap.size w w') : Dn w' B p D g lo c P := by
  obtain ⟨ao, cap, so, sc, J, h1, h2, h3, h4, h5⟩ := h
  exact ⟨ao, cap, so, sc, J, h1.below hb, h2.below hb, h3, h4, h5⟩
theorem slts_far {S S' : Nat → Prop} {w w' : World} {p : Nat} {lb : Option Nat} {ao : Option Addr} {n : Nat} {F : Nat → Slt} (h : SltsAt S w ao n F) (hF : Fr w w' p lb) (hS : ∀ b, S b → b < w.heap.size → (b ≠ p ∧ some b ≠ lb) ∧ S' b) : SltsAt S' w' ao n F :=
  h.keep (fun b i u hs hc => by
    have hl := World.block_lt_of_cell? w _ hc
    have h1 := hS b hs hl
    exact ⟨h1.2, by
      rw [World.cell?_of_block (hF.block b hl h1.1.1 h1.1.2)]
      exact hc⟩)
/-- A block P2 that is none of a book's and none of the lines' is written. -/
theorem dn_put {w w' : World} {B p Q : Nat} {P : Nat → Prop} {ao : Option Addr} {cap : Nat} {so : Option Addr} {sc : Nat} {D : Dc} {g : Stg} {J : Nat} {lo : Option Addr} {c : Nat} (h : BkC w B p ao cap so sc D g J) (hQ : ∀ b, (b = p ∨ (Value.slice ao D.n cap).ownBlock = some b ∨ (Value.slice so J sc).ownBlock = some b) → b ≠ Q) (hP : ∀ b, (b = p ∨ (Value.slice ao D.n cap).ownBlock = some b ∨ (Value.slice so J sc).ownBlock = some b) → ¬ P b) (hs : SltsAt (fun b => ((b ≠ p ∧ (Value.slice ao D.n cap).ownBlock ≠ some b) ∧ ¬ P b) ∧ b ≠ Q) w lo D.n D.F) (hc : D.n ≤ c) (hno : lo = none → c = 0) (hg : w.grownBy w' (some Q)) : Dn w' B p D g lo c P :=
  ⟨ao, cap, so, sc, J, h.keep (fun b hb => hg.block b (h.lt b hb).2 (fun e => hQ b hb (by simpa using e))), hs.keep (fun b i u hs hc => ⟨hs.1, far_cell hg hc hs.2⟩), hc, hno, hP⟩
set_option maxRecDepth 100000 in
set_option maxHeartbeats 16000000 in
theorem step_any {w : World} {B p : Nat} {D : Dc} {g : Stg} {lo : Option Addr} {c : Nat} {P : Nat → Prop} (hDn : Dn w B p D g lo c P) (hPw : ∀ k, P k → k < w.heap.size) (o : Op3) (ho : OpIs w o) (hoC : SltsAt (fun b => b < B) w o.bo o.m o.C) (hm : o.m ≤ 60) (hn : D.n ≤ 400) :
    Calls Try.prog 10 #[.pointer (some ⟨p, 0, none⟩), rbv lo D.n c D.H g, o.val] w fun e w' => ∃ (D' : Dc) (lo' : Option Addr) (c' : Nat), e = .returned (.tuple #[rbv lo' D'.n c' D'.H g, .bool true]) ∧ Dn w' B p D' g lo' c' P ∧ D'.n ≤ 460 ∧ Below B w w' ∧ ∀ k, P k → w'.heap[k]? = w.heap[k]? := by
  obtain ⟨ao, cap, so, sc, J, hBk, hlo, hcn, hno, hPb⟩ := hDn
  obtain ⟨l0, l1, l2, l3⟩ := laid2 w (.cells (rbc lo D.n c D.H g) 31) (.cells #[.int .i64 o.f, .int .i64 o.d, .slice o.bo o.m o.mc, .int .i64 o.h] 35)
  obtain ⟨V0, hV0⟩ : ∃ V0, (w.alloc (.cells (rbc lo D.n c D.H g) 31)).alloc (.cells #[.int .i64 o.f, .int .i64 o.d, .slice o.bo o.m o.mc, .int .i64 o.h] 35) = V0 := ⟨_, rfl⟩
  rw [hV0] at l0 l1 l2 l3
  replace l3 : V0.heap.size = w.heap.size + 1 + 1 := l3
  obtain ⟨k0, k1, k2⟩ := laid1 V0 (.cells #[.slice none 0 0, .int .i64 0, .int .i64 0, .int .i64 0, .int .i64 0, .int .i64 0, .int .i64 0, .int .i64 0, .int .i64 0] 31)
  obtain ⟨W0, hW0⟩ : ∃ W0, V0.alloc (.cells #[.slice none 0 0, .int .i64 0, .int .i64 0, .int .i64 0, .int .i64 0, .int .i64 0, .int .i64 0, .int .i64 0, .int .i64 0] 31) = W0 := ⟨_, rfl⟩
  rw [hW0] at k0 k1 k2
  rw [l3] at k0 k2
  have HB0 := boxed (below_step l2 (Nat.le_refl _) k1)
  have hBk0 := hBk.below HB0.out
  have hlt := hBk.lt
  have hpB := (hlt p (.inl rfl)).1
  have hpw := (hlt p (.inl rfl)).2
  have HR0 : Box (W0.heap[w.heap.size]? = some (.cells (rbc lo D.n c D.H g) 31 (0, 0))) := boxed ((k1.block _ (by omega)).trans l0)
  have HR1 : Box (W0.heap[w.heap.size + 1]? = some (.cells #[.int .i64 o.f, .int .i64 o.d, .slice o.bo o.m o.mc, .int .i64 o.h] 35 (0, 0))) := boxed ((k1.block _ (by omega)).trans l1)
  have HR2 := boxed k0
  have HZ := boxed k2
  have HW0 : Box (((w.alloc (.cells (rbc lo D.n c D.H g) 31)).alloc (.cells #[.int .i64 o.f, .int .i64 o.d, .slice o.bo o.m o.mc, .int .i64 o.h] 35)).alloc (.cells #[.slice none 0 0, .int .i64 0, .int .i64 0, .int .i64 0, .int .i64 0, .int .i64 0, .int .i64 0, .int .i64 0, .int .i64 0] 31) = W0) := boxed (by rw [hV0]; exact hW0)
  have hlo0 := hlo.below HB0.out
  have hoC0 : SltsAt (fun b => b < B) W0 o.bo o.m o.C := hoC.below HB0.out
  have HOp := boxed ho
  have HLt := boxed hlt
  have HPb := boxed hPb
  have hPp := hPb p (.inl rfl)
  have HBk0 := boxed hBk0
  have HLo0 := boxed (hlo.keep (S' := fun b => ((b ≠ p ∧ (Value.slice ao D.n cap).ownBlock ≠ some b) ∧ ¬ P b) ∧ b < w.heap.size) (fun b i u hs hc => ⟨⟨hs, by have := World.block_lt_of_cell? w _ hc; simpa using this⟩, hold HB0.out hc⟩))
  have HCo0 := boxed hoC0
  unfold rbc at HW0
  unfold rbv Op3.val
  clear l0 l1 l2 l3 k0 k1 k2 hV0 hW0 hBk hlo hlo0 hoC hoC0 hBk0 hlt ho hPb
  by_cases hh : o.h = 0
  · have HHh := boxed hh
    clear hh
    obtain ⟨RC, hRC⟩ : ∃ R : Bool, (R = true ↔ Rts o.C o.m 0) := by
      by_cases c : Rts o.C o.m 0
      · exact ⟨true, by simp [c]⟩
      · exact ⟨false, by simp [c]⟩
    have hmy := fun W (h1 : SltsAt (fun b => ((b ≠ p ∧ (Value.slice ao D.n cap).ownBlock ≠ some b) ∧ ¬ P b) ∧ b < w.heap.size) W lo D.n D.F) (h2 : SltsAt (fun b => b < B) W o.bo o.m o.C) => may13_any D g _ _ lo o.bo c o.m o.mc o.C RC hRC o.f o.d HOp.out.f HOp.out.d W h1 h2 (by omega) (by omega)
    unfold rbv at hmy
    have HMy := boxed hmy
    clear hmy
    obtain ⟨⟨x0, x1, x2, x3, x4, x5, x6, x7, x8⟩, -⟩ := cells9 HR0.out
    have hop := fun i => cell_of_row W0 (w.heap.size + 1) i _ _ _ HR1.out
    have p0 : W0.cell? ⟨w.heap.size + 1, 0, none⟩ = some (.int .i64 o.f) := hop 0
    have p1 : W0.cell? ⟨w.heap.size + 1, 1, none⟩ = some (.int .i64 o.d) := hop 1
    have p2 : W0.cell? ⟨w.heap.size + 1, 2, none⟩ = some (.slice o.bo o.m o.mc) := hop 2
    have p3 : W0.cell? ⟨w.heap.size + 1, 3, none⟩ = some (.int .i64 0) := by rw [← HHh.out]; exact hop 3
    clear hop
    cases hwv : wh D o.f o.d && RC with
    | false =>
      rw [hwv] at HMy
      have hrf := refuse_any HBk0.out _ o.bo o.m o.mc o.C HCo0.out (by omega) HOp.out.mc o.f o.d HOp.out.f HOp.out.d (fun h => by
        have : (wh D o.f o.d && RC) = true := by simp [h.1, hRC.2 h.2]
        rw [this] at hwv; cases hwv)
      clear hRC hwv
      go_enter Try.func10, Try.ntmps10
      go_upto_region 1 with fail
      rw [HW0.out]
      go_wp2_with fail
      refine hrf.mono ?_
      rintro e w1 ⟨rfl, hb1⟩
      have HB1 := boxed hb1
      clear x0 x1 x2 x3 x4 x5 x6 x7 x8 p0 p1 p2 p3 hrf
      have r0 := (hb1.block _ (heap_lt HR0.out)).trans HR0.out
      have r1 := (hb1.block _ (heap_lt HR1.out)).trans HR1.out
      obtain ⟨⟨x0, x1, x2, x3, x4, x5, x6, x7, x8⟩, -⟩ := cells9 r0
      have hop := fun i => cell_of_row w1 (w.heap.size + 1) i _ _ _ r1
      have p0 : w1.cell? ⟨w.heap.size + 1, 0, none⟩ = some (.int .i64 o.f) := hop 0
      have p1 : w1.cell? ⟨w.heap.size + 1, 1, none⟩ = some (.int .i64 o.d) := hop 1
      have p2 : w1.cell? ⟨w.heap.size + 1, 2, none⟩ = some (.slice o.bo o.m o.mc) := hop 2
      have hmy1 := HMy.out w1 (HLo0.out.below hb1) (HCo0.out.below hb1)
      clear hb1 r0 r1 hop
      go_wp2_with fail
      refine hmy1.mono ?_
      rintro e w2 ⟨rfl, hb2⟩
      have hb02 := below_step HB1.out (Nat.le_refl _) hb2
      have r0 := (hb02.block _ (heap_lt HR0.out)).trans HR0.out
      have r2 := (hb02.block _ (heap_lt HR2.out)).trans HR2.out
      clear x0 x1 x2 x3 x4 x5 x6 x7 x8 p0 p1 p2 hmy1
      obtain ⟨⟨x0, x1, x2, x3, x4, x5, x6, x7, x8⟩, -⟩ := cells9 r0
      obtain ⟨⟨y0, y1, y2, y3, y4, y5, y6, y7, y8⟩, z0, z1, z2, z3, z4, z5, z6, z7, z8⟩ := cells9 r2
      have hbB : Below B w w2 := (below_step HB0.out (Nat.le_refl _) hb02).mono (by omega)
      have hbP := hbB.size
      have HRr := put9_heap r2 (.slice lo D.n c) (.int .i64 D.H) (.int .i64 g.t) (.int .i64 g.l) (.int .i64 g.a) (.int .i64 g.d) (.int .i64 g.z) (.int .i64 g.o) (.int .i64 g.i)
      have HGr := put9_grown w2 (w.heap.size + 1 + 1) (.slice lo D.n c) (.int .i64 D.H) (.int .i64 g.t) (.int .i64 g.l) (.int .i64 g.a) (.int .i64 g.d) (.int .i64 g.z) (.int .i64 g.o) (.int .i64 g.i)
      have hDn2 := dn_put (P := P) (Q := (w.heap.size + 1 + 1)) (c := c) (HBk0.out.below hb02) (fun b hb => by have := (HLt.out b hb).2; omega) (fun b hb => HPb.out b hb) ((HLo0.out.below hb02).keep (fun b i u hs hc => ⟨⟨hs.1, by omega⟩, hc⟩)) hcn hno HGr
      have hPr : ∀ k, P k → (put9 w2 (w.heap.size + 1 + 1) (.slice lo D.n c) (.int .i64 D.H) (.int .i64 g.t) (.int .i64 g.l) (.int .i64 g.a) (.int .i64 g.d) (.int .i64 g.z) (.int .i64 g.o) (.int .i64 g.i)).heap[k]? = w.heap[k]? := fun k hk => by
        have hkw := hPw k hk
        exact (HGr.block k (by have := hbP; omega) (by simp; omega)).trans ((below_step HB0.out (Nat.le_refl _) hb02).block k hkw)
      have hFb : Below B w (put9 w2 (w.heap.size + 1 + 1) (.slice lo D.n c) (.int .i64 D.H) (.int .i64 g.t) (.int .i64 g.l) (.int .i64 g.a) (.int .i64 g.d) (.int .i64 g.z) (.int .i64 g.o) (.int .i64 g.i)) := hbB.trans (grown_below HGr (by omega) (by have := hbB.size; omega))
      obtain ⟨W9, hW9⟩ : ∃ W9, put9 w2 (w.heap.size + 1 + 1) (.slice lo D.n c) (.int .i64 D.H) (.int .i64 g.t) (.int .i64 g.l) (.int .i64 g.a) (.int .i64 g.d) (.int .i64 g.z) (.int .i64 g.o) (.int .i64 g.i) = W9 := ⟨_, rfl⟩
      rw [hW9] at HRr hDn2 hFb hPr
      unfold put9 at hW9
      replace HRr := boxed HRr
      have HDn2 := boxed hDn2
      have HFb := boxed hFb
      have HPr := boxed hPr
      have HW9 := boxed hW9
      clear hW9 hFb hDn2 hPr HGr hbB r2 r0 hb2 hb02
      go_wp2_with fail
      rw [HW9.out]
      refine bodyPost_ret (v := .tuple #[.agg #[.slice lo D.n c, .int .i64 D.H, .int .i64 g.t, .int .i64 g.l, .int .i64 g.a, .int .i64 g.d, .int .i64 g.z, .int .i64 g.o, .int .i64 g.i], .bool true]) ?_ ?_ ?_
      · exact results_row_tmp Try.results10 _ _ (w.heap.size + 1 + 1) 31 _ (0, 0) _ rfl HRr.out Try.underlying31 rfl (by kernel_rfl)
      · rfl
      · exact ⟨D, lo, c, rfl, HDn2.out, by omega, HFb.out, HPr.out⟩
    | true =>
      rw [hwv] at HMy
      obtain ⟨hw1, hw2⟩ : wh D o.f o.d = true ∧ RC = true := by simpa using hwv
      have hRCt := hRC.1 hw2
      obtain ⟨f, d, hfe, hde, hfd, hsf, hsd⟩ := wh_nat hw1
      obtain ⟨q, hq⟩ := upto_some (D.its J) (f : Int) (its_rise D J)
      have hrp := rep13_any HBk0.out _ o.bo o.m o.mc o.C HCo0.out (fun b hb => ⟨by omega, fun e => by have := (HLt.out b (.inr (.inl e.symm))).1; omega⟩) hRCt (by omega) HOp.out.mc f d hfd hsf hsd (by omega) q hq
      have HQ := boxed hq
      have HE2 := boxed (And.intro hfe hde)
      rw [hfe, hde] at HMy HW0 HR1 ⊢
      rw [hfe] at p0
      rw [hde] at p1
      clear hRC hwv hw1 hw2 hq hfe hde
      go_enter Try.func10, Try.ntmps10
      go_upto_region 1 with fail
      rw [HW0.out]
      go_wp2_with fail
      refine hrp.mono ?_
      rintro e w1 ⟨bl, J1, ao1, cap1, so1, sc1, rfl, hBk1, hBl, -, hFr, hNl, hNs⟩
      have hzz : W0.heap.size = w.heap.size + 1 + 1 + 1 := HZ.out
      have hlk : ∀ k, w.heap.size ≤ k → some k ≠ (Value.slice ao D.n cap).ownBlock := fun k hk e => by have := (HLt.out k (.inr (.inl e.symm))).2; omega
      have r0 := (hFr.block _ (heap_lt HR0.out) (by omega) (hlk _ (by omega))).trans HR0.out
      have r1 := (hFr.block _ (heap_lt HR1.out) (by omega) (hlk _ (by omega))).trans HR1.out
      have HQ0 := boxed r0
      have HQ1 := boxed r1
      have HQ2 := boxed ((hFr.block _ (heap_lt HR2.out) (by omega) (hlk _ (by omega))).trans HR2.out)
      have HBk1 := boxed hBk1
      have HBl := boxed hBl
      have HNl := boxed hNl
      have HNs := boxed hNs
      have HLo1 := boxed (slts_far (S' := fun b => ((b ≠ p ∧ (Value.slice ao D.n cap).ownBlock ≠ some b) ∧ ¬ P b) ∧ b < w.heap.size) HLo0.out hFr (fun b hb _ => ⟨⟨hb.1.1.1, fun e => hb.1.1.2 e.symm⟩, hb⟩))
      have HCo1 := boxed (slts_far (S' := fun b => b < B) HCo0.out hFr (fun b hb _ => ⟨⟨by omega, fun e => by have := (HLt.out b (.inr (.inl e.symm))).1; omega⟩, hb⟩))
      have HFr1 := boxed (hFr.below hpB (fun k e => (HLt.out k (.inr (.inl e))).1) (show B ≤ W0.heap.size by omega))
      have HP1 := boxed (fun k (hk : P k) => (hFr.block k (by have := hPw k hk; omega) (fun e => hPp (e ▸ hk)) (fun e => HPb.out k (.inr (.inl e.symm)) hk)).trans (HB0.out.block k (hPw k hk)))
      have hzW := hFr.size
      have HZW := boxed hzz
      clear x0 x1 x2 x3 x4 x5 x6 x7 x8 p0 p1 p2 p3 hrp hzz hlk
      obtain ⟨⟨x0, x1, x2, x3, x4, x5, x6, x7, x8⟩, -⟩ := cells9 r0
      have hop := fun i => cell_of_row w1 (w.heap.size + 1) i _ _ _ r1
      have p0 : w1.cell? ⟨w.heap.size + 1, 0, none⟩ = some (.int .i64 (f : Nat)) := hop 0
      have p1 : w1.cell? ⟨w.heap.size + 1, 1, none⟩ = some (.int .i64 (d : Nat)) := hop 1
      have p2 : w1.cell? ⟨w.heap.size + 1, 2, none⟩ = some (.slice o.bo o.m o.mc) := hop 2
      have hmy1 := HMy.out w1 HLo1.out HCo1.out
      clear r0 r1 hop hBk1 hBl hFr hNl hNs
      go_wp2_with fail
      refine hmy1.mono ?_
      rintro e w2 ⟨rfl, hb2⟩
      have r0 := (hb2.block _ (heap_lt HQ0.out)).trans HQ0.out
      have r1 := (hb2.block _ (heap_lt HQ1.out)).trans HQ1.out
      have hrr := refrep_any D g HBk0.out.dc _ _ lo o.bo c o.m o.mc o.C f d w2 (HLo1.out.below hb2) (HCo1.out.below hb2) hcn HOp.out.mc hno HOp.out.no (by omega) hfd HBk1.out.dc J J1 q bl HBk0.out.pgs HBk1.out.pgs HQ.out HBl.out
      unfold rbv at hrr
      have HB2 := boxed hb2
      clear x0 x1 x2 x3 x4 x5 x6 x7 x8 p0 p1 p2 hmy1
      obtain ⟨⟨x0, x1, x2, x3, x4, x5, x6, x7, x8⟩, -⟩ := cells9 r0
      have hop := fun i => cell_of_row w2 (w.heap.size + 1) i _ _ _ r1
      have p0 : w2.cell? ⟨w.heap.size + 1, 0, none⟩ = some (.int .i64 (f : Nat)) := hop 0
      have p1 : w2.cell? ⟨w.heap.size + 1, 1, none⟩ = some (.int .i64 (d : Nat)) := hop 1
      have p2 : w2.cell? ⟨w.heap.size + 1, 2, none⟩ = some (.slice o.bo o.m o.mc) := hop 2
      clear r0 r1 hop hb2
      go_wp2_with fail
      refine hrr.mono ?_
      rintro e w3 ⟨lo3, c3, rfl, ho3, hb3⟩
      have hb13 := below_step HB2.out (Nat.le_refl _) hb3
      obtain ⟨k0, k1, k2⟩ := laid1 w3 (.cells (rbc lo3 (D.put f d o.m o.C).n c3 D.H g) 31)
      obtain ⟨w4, hw4⟩ : ∃ w4, w3.alloc (.cells (rbc lo3 (D.put f d o.m o.C).n c3 D.H g) 31) = w4 := ⟨_, rfl⟩
      rw [hw4] at k0 k1 k2
      have hb14 := below_step hb13 (Nat.le_refl _) k1
      have r2 := (hb14.block _ (heap_lt HQ2.out)).trans HQ2.out
      have ho4 := owns_below ho3 k1
      have hz12 := HB2.out.size
      have hzw := HZW.out
      have hi64 : ∀ i, i < (D.put f d o.m o.C).n → I64 ((D.put f d o.m o.C).F i).h ∧ I64 ((D.put f d o.m o.C).F i).i ∧ I64 ((D.put f d o.m o.C).F i).c := HBk1.out.i64
      have hsl4 : SltsAt (fun b => ((b ≠ p ∧ (Value.slice ao1 (D.put f d o.m o.C).n cap1).ownBlock ≠ some b) ∧ ¬ P b) ∧ b ≠ w.heap.size + 1 + 1) w4 lo3 (D.put f d o.m o.C).n (D.put f d o.m o.C).F := (own_slts ho4 hi64).keep (fun b i u hs hc => ⟨⟨⟨⟨by omega, fun e => by
        have := (HBk1.out.lt b (.inr (.inl e))).2
        omega⟩, fun e => by have := hPw b e; omega⟩, by omega⟩, hc⟩)
      have hroom := own_room ho4
      have hnone := own_none ho4
      have hkB := HBk1.out.below hb14
      have hbf : Below B w w4 := ((HB0.out.mono (by omega)).trans HFr1.out).trans (hb14.mono (by omega))
      have hW4 := hw4
      unfold rbc at hW4
      have HW4 := boxed hW4
      clear x0 x1 x2 x3 x4 x5 x6 x7 x8 p0 p1 p2 hrr hw4 hW4 ho3 hb3 hb13 k1 k2 hi64 ho4
      obtain ⟨⟨x0, x1, x2, x3, x4, x5, x6, x7, x8⟩, -⟩ := cells9 k0
      go_upto_region 11 with fail
      rw [HW4.out]
      obtain ⟨⟨y0, y1, y2, y3, y4, y5, y6, y7, y8⟩, z0, z1, z2, z3, z4, z5, z6, z7, z8⟩ := cells9 r2
      have hbB : Below B w w4 := hbf
      have hbP := hbB.size
      have HRr := put9_heap r2 (.slice lo3 (D.put f d o.m o.C).n c3) (.int .i64 D.H) (.int .i64 g.t) (.int .i64 g.l) (.int .i64 g.a) (.int .i64 g.d) (.int .i64 g.z) (.int .i64 g.o) (.int .i64 g.i)
      have HGr := put9_grown w4 (w.heap.size + 1 + 1) (.slice lo3 (D.put f d o.m o.C).n c3) (.int .i64 D.H) (.int .i64 g.t) (.int .i64 g.l) (.int .i64 g.a) (.int .i64 g.d) (.int .i64 g.z) (.int .i64 g.o) (.int .i64 g.i)
      have hDn2 := dn_put (P := P) (Q := (w.heap.size + 1 + 1)) (c := c3) hkB (fun b hb => by
        rcases hb with rfl | hb | hb
        · omega
        · rcases HNl.out b hb with e1 | e1
          · have := (HLt.out b (.inr (.inl e1.symm))).2; omega
          · omega
        · rcases HNs.out b hb with e1 | e1
          · cases e1
          · omega) (fun b hb => by
        rcases hb with rfl | hb | hb
        · exact hPp
        · rcases HNl.out b hb with e1 | e1
          · exact HPb.out b (.inr (.inl e1.symm))
          · exact fun e => by have := hPw b e; omega
        · rcases HNs.out b hb with e1 | e1
          · cases e1
          · exact fun e => by have := hPw b e; omega) hsl4 hroom hnone HGr
      have hPr : ∀ k, P k → (put9 w4 (w.heap.size + 1 + 1) (.slice lo3 (D.put f d o.m o.C).n c3) (.int .i64 D.H) (.int .i64 g.t) (.int .i64 g.l) (.int .i64 g.a) (.int .i64 g.d) (.int .i64 g.z) (.int .i64 g.o) (.int .i64 g.i)).heap[k]? = w.heap[k]? := fun k hk => by
        have hkw := hPw k hk
        exact (HGr.block k (by have := hbP; omega) (by simp; omega)).trans ((hb14.block k (by omega)).trans (HP1.out k hk))
      have hFb : Below B w (put9 w4 (w.heap.size + 1 + 1) (.slice lo3 (D.put f d o.m o.C).n c3) (.int .i64 D.H) (.int .i64 g.t) (.int .i64 g.l) (.int .i64 g.a) (.int .i64 g.d) (.int .i64 g.z) (.int .i64 g.o) (.int .i64 g.i)) := hbB.trans (grown_below HGr (by omega) (by have := hbB.size; omega))
      obtain ⟨W9, hW9⟩ : ∃ W9, put9 w4 (w.heap.size + 1 + 1) (.slice lo3 (D.put f d o.m o.C).n c3) (.int .i64 D.H) (.int .i64 g.t) (.int .i64 g.l) (.int .i64 g.a) (.int .i64 g.d) (.int .i64 g.z) (.int .i64 g.o) (.int .i64 g.i) = W9 := ⟨_, rfl⟩
      rw [hW9] at HRr hDn2 hFb hPr
      unfold put9 at hW9
      replace HRr := boxed HRr
      have HDn2 := boxed hDn2
      have HFb := boxed hFb
      have HPr := boxed hPr
      have HW9 := boxed hW9
      clear hW9 hFb hDn2 hPr HGr hbB r2 k0 hb14 hkB hsl4
      go_wp2_with fail
      rw [HW9.out]
      refine bodyPost_ret (v := .tuple #[.agg #[.slice lo3 (D.put f d o.m o.C).n c3, .int .i64 D.H, .int .i64 g.t, .int .i64 g.l, .int .i64 g.a, .int .i64 g.d, .int .i64 g.z, .int .i64 g.o, .int .i64 g.i], .bool true]) ?_ ?_ ?_
      · exact results_row_tmp Try.results10 _ _ (w.heap.size + 1 + 1) 31 _ (0, 0) _ rfl HRr.out Try.underlying31 rfl (by kernel_rfl)
      · rfl
      · exact ⟨(D.put f d o.m o.C), lo3, c3, rfl, HDn2.out, by show D.n - d + o.m ≤ 460; omega, HFb.out, HPr.out⟩
  · have t0 : (o.h == 0) = false := by simpa using hh
    have t0' : (o.h != 0) = true := by simpa using hh
    obtain ⟨⟨x0, x1, x2, x3, x4, x5, x6, x7, x8⟩, -⟩ := cells9 HR0.out
    have hop := fun i => cell_of_row W0 (w.heap.size + 1) i _ _ _ HR1.out
    have p3 : W0.cell? ⟨w.heap.size + 1, 3, none⟩ = some (.int .i64 o.h) := hop 3
    by_cases hE : ckE o.h g = 0
    · have hrz := resize_ok HBk0.out o.h hE
      have hck := fun W => refcheck_any o.h g W
      rw [(ckb_iff o.h g).2 hE] at hck
      have HRp := boxed (fun W h => refpag_any (D.hgt o.h) g (hgt_ok HBk0.out.dc hE) (fun b => ((b ≠ p ∧ (Value.slice ao D.n cap).ownBlock ≠ some b) ∧ ¬ P b) ∧ b < w.heap.size) lo c W h)
      simp only [show (D.hgt o.h).n = D.n from rfl, show (D.hgt o.h).F = D.F from rfl, show (D.hgt o.h).H = o.h from rfl] at HRp
      unfold Stg.val at hck HRp
      clear hop
      go_enter Try.func10, Try.ntmps10
      go_upto_region 1 with fail
      rw [HW0.out]
      go_wp2_with fail
      refine hrz.mono ?_
      rintro e w1 ⟨J1, so1, sc1, rfl, hBk1, hFr, hNw⟩
      clear x0 x1 x2 x3 x4 x5 x6 x7 x8 p3 hrz
      have r0 := (hFr.block _ (heap_lt HR0.out) (by omega) (fun e => nomatch e)).trans HR0.out
      have r1 := (hFr.block _ (heap_lt HR1.out) (by omega) (fun e => nomatch e)).trans HR1.out
      have hr2 := (hFr.block _ (heap_lt HR2.out) (by omega) (fun e => nomatch e)).trans HR2.out
      have HQ0 := boxed r0
      have HQ1 := boxed r1
      have HQ2 := boxed hr2
      have HBk1 := boxed hBk1
      have HNw1 := boxed hNw
      have HLo1 := boxed (slts_far (S' := fun b => ((b ≠ p ∧ (Value.slice ao D.n cap).ownBlock ≠ some b) ∧ ¬ P b) ∧ b < w.heap.size) HLo0.out hFr (fun b hb _ => ⟨⟨hb.1.1.1, (fun e => nomatch e)⟩, hb⟩))
      have HFr1 := boxed (hFr.below hpB (fun k e => nomatch e) (show B ≤ W0.heap.size by have := HZ.out; omega))
      have HP1 := boxed (fun k (hk : P k) => (hFr.block k (by have := HZ.out; have := hPw k hk; omega) (fun e => hPp (e ▸ hk)) (fun e => nomatch e)).trans (HB0.out.block k (hPw k hk)))
      have hzW := hFr.size
      obtain ⟨⟨x0, x1, x2, x3, x4, x5, x6, x7, x8⟩, -⟩ := cells9 r0
      have hop := fun i => cell_of_row w1 (w.heap.size + 1) i _ _ _ r1
      have p3 : w1.cell? ⟨w.heap.size + 1, 3, none⟩ = some (.int .i64 o.h) := hop 3
      clear r0 r1 hr2 hop hFr hNw hBk1
      go_wp2_with fail
      refine (hck _).mono ?_
      rintro e w2 ⟨rfl, hb2⟩
      have r0 := (hb2.block _ (heap_lt HQ0.out)).trans HQ0.out
      have r1 := (hb2.block _ (heap_lt HQ1.out)).trans HQ1.out
      have HB2 := boxed hb2
      clear x0 x1 x2 x3 x4 x5 x6 x7 x8 p3 hck
      obtain ⟨⟨x0, x1, x2, x3, x4, x5, x6, x7, x8⟩, z0, z1, z2, -⟩ := cells9 r0
      have hop := fun i => cell_of_row w2 (w.heap.size + 1) i _ _ _ r1
      have p3 : w2.cell? ⟨w.heap.size + 1, 3, none⟩ = some (.int .i64 o.h) := hop 3
      have hs0 := arr_set (k := 1) (.int .i64 o.h) r0
      have hgs := grown_set w2 w.heap.size 1 (.int .i64 o.h)
      obtain ⟨w3, hw3⟩ : ∃ w3, w2.setCell ⟨w.heap.size, 1, none⟩ (.int .i64 o.h) = w3 := ⟨_, rfl⟩
      rw [hw3] at hs0 hgs
      have HS0 : Box (w3.heap[w.heap.size]? = some (.cells (rbc lo D.n c o.h g) 31 (0, 0))) := boxed hs0
      have HG3 := boxed hgs
      have HLo3 : Box (SltsAt (fun b => ((b ≠ p ∧ (Value.slice ao D.n cap).ownBlock ≠ some b) ∧ ¬ P b) ∧ b < w.heap.size) w3 lo D.n D.F) := boxed ((HLo1.out.below hb2).keep (fun b i u hs hc => ⟨hs, far_cell hgs hc (by omega)⟩))
      have HQ23 : Box (w3.heap[w.heap.size + 1 + 1]? = _) := boxed ((hgs.block _ (by have := heap_lt HQ2.out; have := hb2.size; omega) (by simp; omega)).trans ((hb2.block _ (heap_lt HQ2.out)).trans HQ2.out))
      have HW3 := boxed hw3
      clear hw3 hs0 hgs r0 r1 hop hb2
      go_upto_region 6 with fail
      rw [HW3.out]
      clear x0 x1 x2 x3 x4 x5 x6 x7 x8 p3 z0 z1 z2
      have HD3 : Box (Below w3.heap.size w3 w3.drew) := boxed (Below.refl _ _).drew
      have HC9 : Box (∀ W, Below w3.heap.size w3 W → W.cell? ⟨w.heap.size, 0, none⟩ = some (.slice lo D.n c) ∧ W.cell? ⟨w.heap.size, 1, none⟩ = some (.int .i64 o.h) ∧ W.cell? ⟨w.heap.size, 2, none⟩ = some (.int .i64 g.t) ∧ W.cell? ⟨w.heap.size, 3, none⟩ = some (.int .i64 g.l) ∧ W.cell? ⟨w.heap.size, 4, none⟩ = some (.int .i64 g.a) ∧ W.cell? ⟨w.heap.size, 5, none⟩ = some (.int .i64 g.d) ∧ W.cell? ⟨w.heap.size, 6, none⟩ = some (.int .i64 g.z) ∧ W.cell? ⟨w.heap.size, 7, none⟩ = some (.int .i64 g.o) ∧ W.cell? ⟨w.heap.size, 8, none⟩ = some (.int .i64 g.i)) := boxed (fun W hb => (cells9 ((hb.block _ (heap_lt HS0.out)).trans HS0.out)).1)
      have hD3 : SltsAt (fun b => ((b ≠ p ∧ (Value.slice ao D.n cap).ownBlock ≠ some b) ∧ ¬ P b) ∧ b < w.heap.size) w3.drew lo D.n D.F := HLo3.out.below HD3.out
      have hrp3 := HRp.out w3.drew hD3
      go_region_held3 (fun W => W.cell? ⟨w.heap.size, 0, none⟩ = some (.slice lo D.n c) ∧ W.cell? ⟨w.heap.size, 1, none⟩ = some (.int .i64 o.h) ∧ W.cell? ⟨w.heap.size, 2, none⟩ = some (.int .i64 g.t) ∧ W.cell? ⟨w.heap.size, 3, none⟩ = some (.int .i64 g.l) ∧ W.cell? ⟨w.heap.size, 4, none⟩ = some (.int .i64 g.a) ∧ W.cell? ⟨w.heap.size, 5, none⟩ = some (.int .i64 g.d) ∧ W.cell? ⟨w.heap.size, 6, none⟩ = some (.int .i64 g.z) ∧ W.cell? ⟨w.heap.size, 7, none⟩ = some (.int .i64 g.o) ∧ W.cell? ⟨w.heap.size, 8, none⟩ = some (.int .i64 g.i))
        (first | with_reducible exact HC9.out _ HD3.out | with_reducible exact HC9.out _ HB4.out | with_reducible exact HC10.out)
        (first
        | (go_at_call 13; refine hrp3.mono ?_; rintro e w4 ⟨J4, b4, k4, rfl, hP4, -, hb4⟩; obtain rfl := (D.hgt o.h).pgs_one hP4 HBk1.out.pgs; have HB4 := boxed (below_step HD3.out (Nat.le_refl _) hb4); have HR4 := boxed ((HB4.out.block _ (heap_lt HQ23.out)).trans HQ23.out); have HC10 : Box ((fun W => W.cell? ⟨w.heap.size, 0, none⟩ = some (.slice lo D.n c) ∧ W.cell? ⟨w.heap.size, 1, none⟩ = some (.int .i64 o.h) ∧ W.cell? ⟨w.heap.size, 2, none⟩ = some (.int .i64 g.t) ∧ W.cell? ⟨w.heap.size, 3, none⟩ = some (.int .i64 g.l) ∧ W.cell? ⟨w.heap.size, 4, none⟩ = some (.int .i64 g.a) ∧ W.cell? ⟨w.heap.size, 5, none⟩ = some (.int .i64 g.d) ∧ W.cell? ⟨w.heap.size, 6, none⟩ = some (.int .i64 g.z) ∧ W.cell? ⟨w.heap.size, 7, none⟩ = some (.int .i64 g.o) ∧ W.cell? ⟨w.heap.size, 8, none⟩ = some (.int .i64 g.i)) (put9 w4 (w.heap.size + 1 + 1) (.slice lo D.n c) (.int .i64 o.h) (.int .i64 g.t) (.int .i64 g.l) (.int .i64 g.a) (.int .i64 g.d) (.int .i64 g.z) (.int .i64 g.o) (.int .i64 g.i))) := boxed (by obtain ⟨e0, e1, e2, e3, e4, e5, e6, e7, e8⟩ := HC9.out _ HB4.out; have hg9 := put9_grown w4 (w.heap.size + 1 + 1) (.slice lo D.n c) (.int .i64 o.h) (.int .i64 g.t) (.int .i64 g.l) (.int .i64 g.a) (.int .i64 g.d) (.int .i64 g.z) (.int .i64 g.o) (.int .i64 g.i); exact ⟨far_cell hg9 e0 (by omega), far_cell hg9 e1 (by omega), far_cell hg9 e2 (by omega), far_cell hg9 e3 (by omega), far_cell hg9 e4 (by omega), far_cell hg9 e5 (by omega), far_cell hg9 e6 (by omega), far_cell hg9 e7 (by omega), far_cell hg9 e8 (by omega)⟩); unfold put9 at HC10; simp only at HC10; obtain ⟨⟨y0, y1, y2, y3, y4, y5, y6, y7, y8⟩, z0, z1, z2, z3, z4, z5, z6, z7, z8⟩ := cells9 HR4.out; clear hP4 hb4))
      all_goals
        have r2 := HR4.out
        have hzB4 := HB4.out.size
        have hzw0 := HZ.out
        have hz2 := HB2.out.size
        have hz3 := HG3.out.size
        have g1 : Below B w1 w2 := HB2.out.mono (by omega)
        have g2 : Below B w2 w3 := grown_below HG3.out (by omega) (by omega)
        have g3 : Below B w3 w4 := HB4.out.mono (by omega)
        have hg34 : Below B w1 w4 := (g1.trans g2).trans g3
        have hkB : BkC w4 B p ao cap so1 sc1 (D.hgt o.h) g J4 := ((HBk1.out.below HB2.out).keep (w' := w3) (fun b hb => HG3.out.block b ((HBk1.out.below HB2.out).lt b hb).2 (fun e => by
          rcases hb with rfl | hb | hb
          · simp at e; omega
          · have := (HLt.out b (.inr (.inl hb))).2; simp at e; omega
          · rcases HNw1.out b hb with e1 | e1
            · cases e1
            · have := HZ.out; simp at e; omega))).below HB4.out
        obtain ⟨⟨y0, y1, y2, y3, y4, y5, y6, y7, y8⟩, z0, z1, z2, z3, z4, z5, z6, z7, z8⟩ := cells9 r2
        have hbB : Below B w w4 := ((HB0.out.mono (by omega)).trans HFr1.out).trans hg34
        have hbP := hbB.size
        have HRr := put9_heap r2 (.slice lo D.n c) (.int .i64 o.h) (.int .i64 g.t) (.int .i64 g.l) (.int .i64 g.a) (.int .i64 g.d) (.int .i64 g.z) (.int .i64 g.o) (.int .i64 g.i)
        have HGr := put9_grown w4 (w.heap.size + 1 + 1) (.slice lo D.n c) (.int .i64 o.h) (.int .i64 g.t) (.int .i64 g.l) (.int .i64 g.a) (.int .i64 g.d) (.int .i64 g.z) (.int .i64 g.o) (.int .i64 g.i)
        have hDn2 := dn_put (P := P) (Q := (w.heap.size + 1 + 1)) (c := c) hkB (fun b hb => by
          rcases hb with rfl | hb | hb
          · omega
          · have := (HLt.out b (.inr (.inl hb))).2; omega
          · rcases HNw1.out b hb with e1 | e1
            · cases e1
            · have := HZ.out; omega) (fun b hb => by
          rcases hb with rfl | hb | hb
          · exact hPp
          · exact HPb.out b (.inr (.inl hb))
          · rcases HNw1.out b hb with e1 | e1
            · cases e1
            · exact fun e => by have := HZ.out; have := hPw b e; omega) ((HLo3.out.below HB4.out).keep (fun b i u hs hc => ⟨⟨hs.1, by omega⟩, hc⟩)) hcn hno HGr
        have hPr : ∀ k, P k → (put9 w4 (w.heap.size + 1 + 1) (.slice lo D.n c) (.int .i64 o.h) (.int .i64 g.t) (.int .i64 g.l) (.int .i64 g.a) (.int .i64 g.d) (.int .i64 g.z) (.int .i64 g.o) (.int .i64 g.i)).heap[k]? = w.heap[k]? := fun k hk => by
          have hkw := hPw k hk
          exact (HGr.block k (by have := hbP; omega) (by simp; omega)).trans ((HB4.out.block k (by omega)).trans ((HG3.out.block k (by omega) (by simp; omega)).trans ((HB2.out.block k (by omega)).trans (HP1.out k hk))))
        have hFb : Below B w (put9 w4 (w.heap.size + 1 + 1) (.slice lo D.n c) (.int .i64 o.h) (.int .i64 g.t) (.int .i64 g.l) (.int .i64 g.a) (.int .i64 g.d) (.int .i64 g.z) (.int .i64 g.o) (.int .i64 g.i)) := hbB.trans (grown_below HGr (by omega) (by have := hbB.size; omega))
        obtain ⟨W9, hW9⟩ : ∃ W9, put9 w4 (w.heap.size + 1 + 1) (.slice lo D.n c) (.int .i64 o.h) (.int .i64 g.t) (.int .i64 g.l) (.int .i64 g.a) (.int .i64 g.d) (.int .i64 g.z) (.int .i64 g.o) (.int .i64 g.i) = W9 := ⟨_, rfl⟩
        rw [hW9] at HRr hDn2 hFb hPr
        unfold put9 at hW9
        replace HRr := boxed HRr
        have HDn2 := boxed hDn2
        have HFb := boxed hFb
        have HPr := boxed hPr
        have HW9 := boxed hW9
        clear hW9 hFb hDn2 hPr HGr hbB r2 HC9 HC10
        go_wp2_with fail
        rw [HW9.out]
        refine bodyPost_ret (v := .tuple #[.agg #[.slice lo D.n c, .int .i64 o.h, .int .i64 g.t, .int .i64 g.l, .int .i64 g.a, .int .i64 g.d, .int .i64 g.z, .int .i64 g.o, .int .i64 g.i], .bool true]) ?_ ?_ ?_
        · exact results_row_tmp Try.results10 _ _ (w.heap.size + 1 + 1) 31 _ (0, 0) _ rfl HRr.out Try.underlying31 rfl (by kernel_rfl)
        · rfl
        · exact ⟨(D.hgt o.h), lo, c, rfl, HDn2.out, by show D.n ≤ 460; omega, HFb.out, HPr.out⟩
    · have hrz := resize_no HBk0.out o.h hE
      have hck := fun W => refcheck_any o.h g W
      rw [show ckB o.h g = false by
        cases hv : ckB o.h g with
        | false => rfl
        | true => exact absurd ((ckb_iff o.h g).1 hv) hE] at hck
      unfold Stg.val at hck
      clear hE hop
      go_enter Try.func10, Try.ntmps10
      go_upto_region 1 with fail
      rw [HW0.out]
      go_wp2_with fail
      refine hrz.mono ?_
      rintro e w1 ⟨rfl, hb1⟩
      have HB1 := boxed hb1
      clear x0 x1 x2 x3 x4 x5 x6 x7 x8 p3 hrz
      have r0 := (hb1.block _ (heap_lt HR0.out)).trans HR0.out
      have r1 := (hb1.block _ (heap_lt HR1.out)).trans HR1.out
      obtain ⟨⟨x0, x1, x2, x3, x4, x5, x6, x7, x8⟩, -⟩ := cells9 r0
      have hop := fun i => cell_of_row w1 (w.heap.size + 1) i _ _ _ r1
      have p3 : w1.cell? ⟨w.heap.size + 1, 3, none⟩ = some (.int .i64 o.h) := hop 3
      clear hb1 r0 r1 hop
      go_wp2_with fail
      refine (hck _).mono ?_
      rintro e w2 ⟨rfl, hb2⟩
      have hb02 := below_step HB1.out (Nat.le_refl _) hb2
      have r0 := (hb02.block _ (heap_lt HR0.out)).trans HR0.out
      have r2 := (hb02.block _ (heap_lt HR2.out)).trans HR2.out
      clear x0 x1 x2 x3 x4 x5 x6 x7 x8 p3
      obtain ⟨⟨x0, x1, x2, x3, x4, x5, x6, x7, x8⟩, -⟩ := cells9 r0
      obtain ⟨⟨y0, y1, y2, y3, y4, y5, y6, y7, y8⟩, z0, z1, z2, z3, z4, z5, z6, z7, z8⟩ := cells9 r2
      have hbB : Below B w w2 := (below_step HB0.out (Nat.le_refl _) hb02).mono (by omega)
      have hbP := hbB.size
      have HRr := put9_heap r2 (.slice lo D.n c) (.int .i64 D.H) (.int .i64 g.t) (.int .i64 g.l) (.int .i64 g.a) (.int .i64 g.d) (.int .i64 g.z) (.int .i64 g.o) (.int .i64 g.i)
      have HGr := put9_grown w2 (w.heap.size + 1 + 1) (.slice lo D.n c) (.int .i64 D.H) (.int .i64 g.t) (.int .i64 g.l) (.int .i64 g.a) (.int .i64 g.d) (.int .i64 g.z) (.int .i64 g.o) (.int .i64 g.i)
      have hDn2 := dn_put (P := P) (Q := (w.heap.size + 1 + 1)) (c := c) (HBk0.out.below hb02) (fun b hb => by have := (HLt.out b hb).2; omega) (fun b hb => HPb.out b hb) ((HLo0.out.below hb02).keep (fun b i u hs hc => ⟨⟨hs.1, by omega⟩, hc⟩)) hcn hno HGr
      have hPr : ∀ k, P k → (put9 w2 (w.heap.size + 1 + 1) (.slice lo D.n c) (.int .i64 D.H) (.int .i64 g.t) (.int .i64 g.l) (.int .i64 g.a) (.int .i64 g.d) (.int .i64 g.z) (.int .i64 g.o) (.int .i64 g.i)).heap[k]? = w.heap[k]? := fun k hk => by
        have hkw := hPw k hk
        exact (HGr.block k (by have := hbP; omega) (by simp; omega)).trans ((below_step HB0.out (Nat.le_refl _) hb02).block k hkw)
      have hFb : Below B w (put9 w2 (w.heap.size + 1 + 1) (.slice lo D.n c) (.int .i64 D.H) (.int .i64 g.t) (.int .i64 g.l) (.int .i64 g.a) (.int .i64 g.d) (.int .i64 g.z) (.int .i64 g.o) (.int .i64 g.i)) := hbB.trans (grown_below HGr (by omega) (by have := hbB.size; omega))
      obtain ⟨W9, hW9⟩ : ∃ W9, put9 w2 (w.heap.size + 1 + 1) (.slice lo D.n c) (.int .i64 D.H) (.int .i64 g.t) (.int .i64 g.l) (.int .i64 g.a) (.int .i64 g.d) (.int .i64 g.z) (.int .i64 g.o) (.int .i64 g.i) = W9 := ⟨_, rfl⟩
      rw [hW9] at HRr hDn2 hFb hPr
      unfold put9 at hW9
      replace HRr := boxed HRr
      have HDn2 := boxed hDn2
      have HFb := boxed hFb
      have HPr := boxed hPr
      have HW9 := boxed hW9
      clear hW9 hFb hDn2 hPr HGr hbB r2 r0 hb2 hb02 hck
      go_wp2_with fail
      rw [HW9.out]
      refine bodyPost_ret (v := .tuple #[.agg #[.slice lo D.n c, .int .i64 D.H, .int .i64 g.t, .int .i64 g.l, .int .i64 g.a, .int .i64 g.d, .int .i64 g.z, .int .i64 g.o, .int .i64 g.i], .bool true]) ?_ ?_ ?_
      · exact results_row_tmp Try.results10 _ _ (w.heap.size + 1 + 1) 31 _ (0, 0) _ rfl HRr.out Try.underlying31 rfl (by kernel_rfl)
      · rfl
      · exact ⟨D, lo, c, rfl, HDn2.out, by omega, HFb.out, HPr.out⟩
end Go.Proofs.Ytdpjaafdpgkclaa
