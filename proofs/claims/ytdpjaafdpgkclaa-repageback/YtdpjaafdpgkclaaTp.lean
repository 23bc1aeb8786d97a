/-
  Lines in the place of others, and the pages then: what Replace does where it isn't refused.
-/
import Derived.Test.YtdpjaafdpgkclaaTo
namespace Go.Proofs.Ytdpjaafdpgkclaa
open Go.RowKit
set_option linter.unusedSimpArgs false
set_option linter.unusedVariables false

theorem own_blk (ao : Option Addr) (n c n' c' : Nat) : (Value.slice ao n c).ownBlock = (Value.slice ao n' c').ownBlock := by cases ao <;> rfl
/-- A book whose lines are others already, its pages not yet. -/
structure Hf (w : World) (B p : Nat) (ao : Option Addr) (n cap : Nat) (so : Option Addr) (sc J : Nat) (F : Nat → Slt) (H : Int) (g : Stg) (L : List Nat) : Prop where
  row : w.heap[p]? = some (.cells (bcs ao n cap so J sc H g) 66 (0, 0))
  own : w.ownsRow B 69 4 (.slice ao n cap) n (scs F n)
  npl : ∀ b, (Value.slice ao n cap).ownBlock = some b → b ≠ p
  st : w.ownsRow B 3 1 (.slice so J sc) J (ncs L)
theorem Hf.below {w w' : World} {B p : Nat} {ao : Option Addr} {n cap : Nat} {so : Option Addr} {sc J : Nat} {F : Nat → Slt} {H : Int} {g : Stg} {L : List Nat} (h : Hf w B p ao n cap so sc J F H g L) (hb : Below w.heap.size w w') : Hf w' B p ao n cap so sc J F H g L :=
  ⟨by rw [hb.block p (heap_lt h.row)]; exact h.row, owns_below h.own hb, h.npl, owns_below h.st hb⟩
theorem half {w w1 : World} {B p : Nat} {ao : Option Addr} {cap : Nat} {so : Option Addr} {sc : Nat} {D : Dc} {g : Stg} {J : Nat} (h : BkC w B p ao cap so sc D g J) (F' : Nat → Slt) (n' cap' : Nat) (ao' : Option Addr) (hg : w.grownBy w1 (Value.slice ao D.n cap).ownBlock) (ho : w1.ownsRow B 69 4 (.slice ao' n' cap') n' (scs F' n')) (hn : ao' = ao ∨ ∃ h, ao' = some ⟨h, 0, none⟩ ∧ w.heap.size ≤ h) :
    Hf (w1.setCell ⟨p, 0, none⟩ (.slice ao' n' cap')) B p ao' n' cap' so sc J F' D.H g (D.its J) ∧ (w1.frozen? ⟨p, 0, none⟩ = false ∧ (w1.cell? ⟨p, 0, none⟩).isSome = true) ∧ Nw w (Value.slice ao D.n cap).ownBlock (.slice ao' n' cap') := by
  have hp := heap_lt h.row
  have hrow : w1.heap[p]? = some (.cells (bcs ao D.n cap so J sc D.H g) 66 (0, 0)) := by
    rw [hg.block p hp (fun e => h.npl p e.symm rfl)]; exact h.row
  have hnw : Nw w (Value.slice ao D.n cap).ownBlock (.slice ao' n' cap') := by
    intro b hb
    rcases hn with rfl | ⟨x, rfl, hx⟩
    · left; rw [← hb]; exact own_blk _ _ _ _ _
    · right; simp [Value.ownBlock] at hb; omega
  have hnpl : ∀ b, (Value.slice ao' n' cap').ownBlock = some b → b ≠ p := by
    intro b hb
    rcases hnw b hb with e | e
    · exact h.npl b e.symm
    · omega
  refine ⟨⟨arr_set _ hrow, own_kept ho (fun b hb => heap_setCell_other w1 ⟨p, 0, none⟩ b _ (fun e => hnpl b hb (by simpa using e))), hnpl, own_kept h.st (fun b hb => ?_)⟩, ⟨row_free hrow 0, by rw [cell_of_row _ _ _ _ _ _ hrow]; rfl⟩, hnw⟩
  obtain ⟨n1, n2⟩ := h.nps b hb
  rw [heap_setCell_other w1 ⟨p, 0, none⟩ b _ (fun e => n1 (by simpa using e)), hg.block b (h.st.lt b hb).2 (fun e => n2 e.symm)]
theorem Hf.cells {w : World} {B p : Nat} {ao : Option Addr} {n cap : Nat} {so : Option Addr} {sc J : Nat} {F : Nat → Slt} {H : Int} {g : Stg} {L : List Nat} (h : Hf w B p ao n cap so sc J F H g L) : w.cell? ⟨p, 0, none⟩ = some (.slice ao n cap) ∧ w.cell? ⟨p, 2, none⟩ = some (.int .i64 H) ∧ w.cell? ⟨p, 3, none⟩ = some (.int .i64 g.t) ∧ w.cell? ⟨p, 4, none⟩ = some (.int .i64 g.l) ∧ w.cell? ⟨p, 5, none⟩ = some (.int .i64 g.a) ∧ w.cell? ⟨p, 6, none⟩ = some (.int .i64 g.d) ∧ w.cell? ⟨p, 7, none⟩ = some (.int .i64 g.z) ∧ w.cell? ⟨p, 8, none⟩ = some (.int .i64 g.o) ∧ w.cell? ⟨p, 9, none⟩ = some (.int .i64 g.i) := by
  have hc := fun i => cell_of_row w p i _ _ _ h.row
  exact ⟨hc 0, hc 2, hc 3, hc 4, hc 5, hc 6, hc 7, hc 8, hc 9⟩
/-- The whole book again. -/
theorem Hf.whole {w w1 : World} {B p : Nat} {ao : Option Addr} {cap : Nat} {so : Option Addr} {sc J : Nat} {D : Dc} {g : Stg} {L : List Nat} (h : Hf w B p ao D.n cap so sc J D.F D.H g L) (so' : Option Addr) (J' sc' : Nat) (hb : Below w.heap.size w w1) (G : Nat) (hG : w.heap.size ≤ G) (hst : w1.ownsRow G 3 1 (.slice so' J' sc') J' (ncs (D.its J'))) (hP : D.Pgs J') (hD : DcOk D g) (hE : ckE D.H g = 0) (hR : Rts D.F D.n 0) (hBp : B ≤ p) (hBw : B ≤ w.heap.size) :
    BkC (w1.setCell ⟨p, 1, none⟩ (.slice so' J' sc')) B p ao cap so' sc' D g J' ∧ (w1.frozen? ⟨p, 1, none⟩ = false ∧ (w1.cell? ⟨p, 1, none⟩).isSome = true) := by
  have h1 := h.below hb
  have hp := heap_lt h.row
  have key : ∀ b, b ≠ p → (w1.setCell ⟨p, 1, none⟩ (.slice so' J' sc')).heap[b]? = w1.heap[b]? := fun b hb => heap_setCell_other w1 ⟨p, 1, none⟩ b _ (fun e => hb (by simpa using e))
  refine ⟨⟨arr_set _ h1.row, own_kept h1.own (fun b hb => key b (h.npl b hb)), h.npl, own_down (own_kept hst (fun b hb => key b (by have := (hst.lt b hb).1; omega))) (by omega), fun b hb => ?_, hBp, hP, hD, hE, hR⟩, row_free h1.row 1, by rw [cell_of_row _ _ _ _ _ _ h1.row]; rfl⟩
  have h2 := (hst.lt b hb).1
  refine ⟨by omega, fun e => ?_⟩
  have h3 := (h.own.lt b e).2
  omega
theorem pre_ns {S : Nat → Prop} {w : World} {so : Option Addr} {D : Dc} {J pg : Nat} (h : NAt S w so (D.its J)) (hp : pg ≤ J) : NsAt S w so (D.its pg) := by
  intro i hi
  rw [D.its_len] at hi
  obtain ⟨b, e, hs, c⟩ := h i (by rw [D.its_len]; omega)
  refine ⟨b, 0, e, hs, ?_⟩
  rw [Nat.zero_add, c, D.its_get J i (by omega), D.its_get pg i hi]
theorem mvl_rise (D : Dc) (u N m d : Nat) (hd : ∀ j, j < N → d ≤ D.it (u + j)) : ∀ j k, j ≤ k → k < (mvl (fun j => D.it (u + j)) (fun z => z + m - d) N N).length → (mvl (fun j => D.it (u + j)) (fun z => z + m - d) N N).getD j 0 ≤ (mvl (fun j => D.it (u + j)) (fun z => z + m - d) N N).getD k 0 := by
  intro j k h1 h2
  rw [mvl_len] at h2
  rw [mvl_get _ _ _ _ _ h2, mvl_get _ _ _ _ _ (show j < N by omega), if_pos h2, if_pos (by omega)]
  have := D.it_mono (show u + j ≤ u + k by omega)
  omega
theorem join_any (S : Nat → Prop) (w : World) (so a1 a2 : Option Addr) (pg sc bl k1 n2 k2 J' : Nat) (L0 L1 L2 L : List Nat) (h0 : NsAt S w so L0) (h1 : NsAt S w a1 L1) (h2 : NsAt S w a2 L2) (l0 : L0.length = pg) (l1 : L1.length = bl) (l2 : L2.length = n2) (c0 : so = none → sc = 0) (c1 : a1 = none → k1 = 0) (c2 : a2 = none → k2 = 0) (hL : L0 ++ (L1 ++ L2) = L) (hJ : L.length = J') (hm : J' ≤ 100000) :
    Calls Try.prog 41 #[.slice (some ⟨w.heap.size, 0, none⟩) 3 3] (w.alloc (.cells #[.slice so pg sc, .slice a1 bl k1, .slice a2 n2 k2] 39)) fun e w' => ∃ so' sc', e = .returned (.slice so' J' sc') ∧ w'.ownsRow w.heap.size 3 1 (.slice so' J' sc') J' (ncs L) ∧ Below w.heap.size w w' := by
  have hA : ∀ {P : Nat → Prop}, P 0 → P 1 → P 2 → ∀ k, k < 3 → P k := fun p0 p1 p2 k hk => by
    match k, hk with
    | 0, _ => exact p0
    | 1, _ => exact p1
    | 2, _ => exact p2
  have hb := (laid1 w (.cells #[.slice so pg sc, .slice a1 bl k1, .slice a2 n2 k2] 39)).2.1
  have hll : L0.length + (L1.length + L2.length) = J' := by rw [← hJ, ← hL, List.length_append, List.length_append]
  have key := concat_any S w.heap.size (fun k => match k with | 0 => so | 1 => a1 | _ => a2) (fun k => match k with | 0 => L0 | 1 => L1 | _ => L2) (fun k => match k with | 0 => sc | 1 => k1 | _ => k2) (w.alloc (.cells #[.slice so pg sc, .slice a1 bl k1, .slice a2 n2 k2] 39))
    (hA (by rw [cell_first]; simp [l0]) (by rw [cell_first]; simp [l1]) (by rw [cell_first]; simp [l2]))
    (hA (h0.below hb) (h1.below hb) (h2.below hb)) (hA c0 c1 c2) (hA (by show L0.length ≤ _; omega) (by show L1.length ≤ _; omega) (by show L2.length ≤ _; omega))
  refine key.mono ?_
  rintro e w' ⟨ao, c, rfl, k2, k3⟩
  have et : tl (fun k => match k with | 0 => L0 | 1 => L1 | _ => L2) 3 = J' := by
    show 0 + L0.length + L1.length + L2.length = J'
    omega
  have ec : cat (fun k => match k with | 0 => L0 | 1 => L1 | _ => L2) 3 = L := by
    show (([] ++ L0) ++ L1) ++ L2 = L
    rw [← hL]; simp
  rw [et, ec] at k2
  rw [et]
  exact ⟨ao, c, rfl, own_down k2 (by simp), kept_below (Below.refl _ _) (Nat.le_refl _) k3⟩
set_option maxRecDepth 100000 in
set_option maxHeartbeats 8000000 in
theorem rep13_any {w : World} {B p : Nat} {ao : Option Addr} {cap : Nat} {so : Option Addr} {sc : Nat} {D : Dc} {g : Stg} {J : Nat} (h : BkC w B p ao cap so sc D g J) (S : Nat → Prop) (bo : Option Addr) (m mc : Nat) (C : Nat → Slt) (hC : SltsAt S w bo m C) (hS : ∀ b, S b → b ≠ p ∧ some b ≠ (Value.slice ao D.n cap).ownBlock) (hRC : Rts C m 0) (hm : m ≤ 1000) (hmc : m ≤ mc) (f d : Nat) (hfd : f + d ≤ D.n) (h1 : f = D.n ∨ (D.F f).i = 0) (h2 : f + d = D.n ∨ (D.F (f + d)).i = 0) (hn : D.n - d + m ≤ 1000) (q : Nat) (hq : Upto (D.its J) (f : Int) q) :
    Calls Try.prog 21 #[.pointer (some ⟨p, 0, none⟩), .int .i64 (f : Nat), .int .i64 (d : Nat), .slice bo m mc] w fun e w' => ∃ (bl J' : Nat) (ao' : Option Addr) (cap' : Nat) (so' : Option Addr) (sc' : Nat), e = .returned (.tuple #[.int .i64 ((q - 2 : Nat) : Int), .int .i64 (bl : Nat), .int .i64 0]) ∧ BkC w' B p ao' cap' so' sc' (D.put f d m C) g J' ∧ Bl D J f d m C J' (q - 2) bl ∧ (∀ k, k ≤ q - 2 → (D.put f d m C).it k = D.it k) ∧ Fr w w' p (Value.slice ao D.n cap).ownBlock ∧ Nw w (Value.slice ao D.n cap).ownBlock (.slice ao' (D.put f d m C).n cap') ∧ Nw w none (.slice so' J' sc') := by
  obtain ⟨hR', hD'⟩ := put_ok h.dc h.ck h.rts hRC hfd h1 h2 hn
  obtain ⟨u, hu⟩ := upto_some (D.its J) (((f + d : Nat) : Int) - 1) (its_rise D J)
  have hqJ : q ≤ J := by have := hq.1; rw [D.its_len] at this; exact this
  have huJ : u ≤ J := by have := hu.1; rw [D.its_len] at this; exact this
  have hJn := h.jle
  have hn0 := h.dc.n
  have hJc : J ≤ sc := own_room h.st
  have hBw : B ≤ w.heap.size := by have := (h.lt p (.inl rfl)); omega
  have W1 := whole_any h (f : Int) (d : Int) (by unfold I64; omega) (by unfold I64; omega)
  rw [wh_of hfd h1 h2] at W1
  have W2 := right_any S bo m mc C true (by simp [hRC]) w hC hm hmc
  simp only [if_true] at W2
  have W3 := boxed (fun W (hb : Below w.heap.size w W) => page_any (h.below hb) f q hq)
  have hit : ∀ k, k ≤ q - 2 → (D.put f d m C).it k = D.it k := it_ahead D f d m C hfd hD'.pos (q - 2) (by
    by_cases c : q - 2 = 0
    · exact .inl c
    · right
      have k1 := h.pgs.1 (q - 2 + 1) (by omega)
      have k2 := hq.2.1 (q - 2 + 1) (by omega)
      rw [D.its_get J _ (by omega)] at k2
      omega)
  obtain ⟨pg, hpg⟩ : ∃ pg, q - 2 = pg := ⟨_, rfl⟩
  have W4 := boxed (fun W (hb : Below w.heap.size w W) => lineof_any (h.below hb) pg (by omega))
  have W5 := boxed (fun W (hb : Below w.heap.size w W) => behind_any (h.below hb) (f + d) u m d (by omega) hm hfd hu)
  have W6 := boxed (fun W (hb : Below w.heap.size w W) => replace_any S B ao bo D.n cap m mc f d (f + d) D.F C W (h.below hb).own (hC.below hb) (fun b hb' => (hS b hb').2) (by have := hb.size; omega) rfl hfd hn0 hm)
  have HBk := boxed (fun W (hb : Below w.heap.size w W) => h.below hb)
  have HFin := boxed (fun bl L2 hB => fin_its D J f d m C h.pgs hfd hD'.pos q u hq hu bl L2 hB)
  have HQ := boxed hq
  have HU := boxed hu
  have HIt := boxed hit
  have HR' := boxed hR'
  have HD' := boxed hD'
  have HE := boxed h.ck
  have hBp := h.Bp
  rw [hpg] at W3 HFin HIt ⊢
  have HPg := boxed hpg
  have hpgs : pg ≤ sc := by omega
  have hpgJ : pg ≤ J := by omega
  clear h hC hS hRC h1 h2 hR' hD' hq hu hit hpg
  go_enter Try.func21, Try.ntmps21
  go_wp2_with fail
  refine W1.mono ?_
  rintro e w1 ⟨rfl, hw1⟩
  rw [hw1]
  clear W1 hw1 w1
  go_wp2_with fail
  refine W2.mono ?_
  rintro e w2 ⟨rfl, hb2⟩
  have B2 := boxed hb2
  clear hb2 W2
  go_wp2_with fail
  refine (W3.out _ B2.out).mono ?_
  rintro e w3 ⟨rfl, hb3⟩
  have B3 := boxed (below_step B2.out (Nat.le_refl _) hb3)
  clear hb3 W3 B2
  obtain ⟨⟨-, c1, -⟩, -⟩ := (HBk.out _ B3.out).cells
  have CL : Box (∀ k, Calls Try.prog 37 #[.pointer (some ⟨p, 0, none⟩), .int .i64 (pg : Nat)] (w3.drewN k) fun e w' => e = .returned (.int .i64 (D.it pg : Nat)) ∧ w' = w3.drewN k) := boxed (fun k => W4.out _ (below_step B3.out (Nat.le_refl _) (bel_drewN _ w3 k)))
  have hpgi : (pg : Int) ≤ (sc : Int) := by omega
  go_wp2_with fail
  go_quiet ((go_at_call 37; exact Calls.quiet_of_same (CL.out _)))
  go_wp2_with fail
  have B4 := boxed (below_step B3.out (Nat.le_refl _) (bel_drewN _ w3 nq))
  clear CL W4 c1
  generalize w3.drewN nq = w4 at *
  have hcast : ((f + d : Nat) : Int) = (f : Int) + (d : Int) := by omega
  have h5 := W5.out _ B4.out
  rw [hcast] at h5
  refine h5.mono ?_
  rintro e w5 ⟨ka, kc, rfl, hk5, hb5⟩
  have K5 := boxed hk5
  have B5 := boxed (below_step B4.out (Nat.le_refl _) hb5)
  have hz4 := B4.out.size
  have hz5 := hb5.size
  have h6 := W6.out _ B5.out
  rw [hcast] at h6
  obtain ⟨⟨c0, -, -⟩, -⟩ := (HBk.out _ B5.out).cells
  clear hk5 hb5 h5 W5 W6 hcast
  go_wp2_with fail
  refine h6.mono ?_
  rintro e w6 ⟨ao', cap', rfl, ho6, hg6, hn6⟩
  obtain ⟨hHf, ⟨hfz, hsm⟩, hNw⟩ := half (HBk.out _ B5.out) (put D.F f d m C) (D.n - d + m) cap' ao' hg6 ho6 hn6
  obtain ⟨old, hold6⟩ := Option.isSome_iff_exists.1 hsm
  have HH := boxed hHf
  have HG6 := boxed hg6
  have HNw := boxed hNw
  have hlb : ∀ b, (Value.slice ao D.n cap).ownBlock = some b → b < w.heap.size := fun b hb => ((HBk.out _ (Below.refl _ _)).lt b (.inr (.inl hb))).2
  have hpw : p < w.heap.size := ((HBk.out _ (Below.refl _ _)).lt p (.inl rfl)).2
  have hsz6 := hg6.size
  have HK6 : Box ((w6.setCell ⟨p, 0, none⟩ (.slice ao' (D.n - d + m) cap')).ownsRow w4.heap.size 3 1 (.slice ka (J - u) kc) (J - u) (ncs (mvl (fun j => D.it (u + j)) (fun z => z + m - d) (J - u) (J - u)))) := boxed (own_kept K5.out (fun b hb => by
    have k1 := K5.out.lt b hb
    rw [heap_setCell_other w6 ⟨p, 0, none⟩ b _ (fun e => by simp at e; omega), hg6.block b k1.2 (fun e => by have := hlb b e.symm; omega)]))
  have hFr : Fr w (w6.setCell ⟨p, 0, none⟩ (.slice ao' (D.n - d + m) cap')) p (Value.slice ao D.n cap).ownBlock := (Fr.of_below p _ B5.out).trans ((Fr.of_grown p hg6).trans (Fr.of_set w6 p 0 _ _))
  have HFr := boxed hFr
  have hszz : w5.heap.size ≤ (w6.setCell ⟨p, 0, none⟩ (.slice ao' (D.n - d + m) cap')).heap.size := by simpa using hsz6
  clear ho6 hg6 hn6 hHf hsm hNw h6 K5 hFr hsz6
  obtain ⟨n', hn'⟩ : ∃ n', D.n - d + m = n' := ⟨_, rfl⟩
  have HN' := boxed (show (D.put f d m C).n = n' from hn')
  rw [hn'] at HH HNw HK6 HFr hszz hn ⊢
  clear hn'
  go_wp2_with fail
  generalize w6.setCell ⟨p, 0, none⟩ (.slice ao' n' cap') = w7 at *
  have e1 := HN'.out
  subst e1
  have hi64 : ∀ i, i < (D.put f d m C).n → I64 ((D.put f d m C).F i).h ∧ I64 ((D.put f d m C).F i).i ∧ I64 ((D.put f d m C).F i).c := fun i hi => by
    have k1 := HD'.out.ok i hi
    have k2 := HD'.out.n
    unfold SltOk at k1
    unfold I64
    omega
  obtain ⟨c0', c2, c3, c4, c5, c6, c7, c8, c9⟩ := HH.out.cells
  have hb7 := build_any (D.put f d m C) g HD'.out _ p ao' cap' w7 (own_slts HH.out.own hi64) c0' c2 c3 c4 c5 c6 c7 c8 c9 w4.heap.size 0 (J - u) kc ka _ HK6.out (mvl_len _ _ _ _) (by omega) (mvl_rise D u (J - u) m d (fun j hj => by
    have k1 := HU.out.2.2 (u + j) (by omega) (by rw [D.its_len]; omega)
    rw [D.its_get J (u + j) (by omega)] at k1
    omega)) pg
  rw [HIt.out pg (Nat.le_refl _)] at hb7
  clear c0' c2 c3 c4 c5 c6 c7 c8 c9 hi64 HK6 c0 hfz hold6
  refine hb7.mono ?_
  rintro e w8 ⟨bl, a1, k1, a2, n2, k2, L2, rfl, ho8, hl2, hns8, hnone8, hB8, hb8⟩
  obtain ⟨J', hP', hL', hBl', -⟩ := HFin.out bl L2 hB8
  have HP' := boxed hP'
  have HBl := boxed hBl'
  have HB8 := boxed hb8
  have hJ' : J' ≤ 1000 := by
    have k1 := (D.put f d m C).it_ge J' hP'.1
    have k2 := (D.put f d m C).it_le J'
    have k3 := HD'.out.n
    omega
  have hjoin := join_any (fun _ => True) w8 so a1 a2 pg sc bl k1 n2 k2 J' (D.its pg) (bls (D.put f d m C) pg bl) L2 ((D.put f d m C).its J')
    ((pre_ns (own_nat (HH.out.below hb8).st (D.its_len J)) hpgJ).keep (fun b i v hs hc => ⟨trivial, hc⟩)) ((own_nat ho8 (bls_len _ _ _)).ns.keep (fun b i v hs hc => ⟨trivial, hc⟩)) (hns8.keep (fun b i v hs hc => ⟨trivial, hc⟩)) (D.its_len pg) (bls_len _ _ _) hl2
    (fun e => by
      rcases ownsRow_forms HH.out.st with ⟨e1, e2⟩ | ⟨g', c', e1⟩
      · injection e1
      · rw [e] at e1; injection e1 with e1; cases e1)
    (fun e => by
      rcases ownsRow_forms ho8 with ⟨e1, e2⟩ | ⟨g', c', e1⟩
      · injection e1
      · rw [e] at e1; injection e1 with e1; cases e1) hnone8 hL' ((D.put f d m C).its_len J') (by omega)
  clear hb7 ho8 hl2 hns8 hnone8 hB8 hb8 hP' hL' hBl' HFin
  go_wp2_with fail
  refine hjoin.mono ?_
  rintro e w9 ⟨so', sc', rfl, ho9, hb9⟩
  have hz8 := HB8.out.size
  have hzF := HFr.out.size
  obtain ⟨hBk, hfz9, hsm9⟩ := HH.out.whole (D := D.put f d m C) so' J' sc' (below_step HB8.out (Nat.le_refl _) hb9) w8.heap.size hz8 ho9 HP'.out HD'.out HE.out HR'.out hBp (by omega)
  obtain ⟨old9, hold9⟩ := Option.isSome_iff_exists.1 hsm9
  have HBk' := boxed hBk
  have HFr' := boxed (HFr.out.trans ((Fr.of_below p _ (below_step HB8.out (Nat.le_refl _) hb9)).trans (Fr.of_set w9 p 1 (.slice so' J' sc') _)))
  have HNs : Box (Nw w none (.slice so' J' sc')) := boxed (fun b hb => .inr (by have := (ho9.lt b hb).1; omega))
  have HNl : Box (Nw w (Value.slice ao D.n cap).ownBlock (.slice ao' (D.put f d m C).n cap')) := boxed (fun b hb => by
    rcases HNw.out b hb with e | e
    · exact .inl e
    · right; omega)
  clear hBk hsm9 ho9 hb9 hjoin HFr HNw
  go_wp2_with fail
  go_ret3
  exact ⟨bl, J', ao', cap', so', sc', rfl, HBk'.out, HBl.out, HIt.out, HFr'.out, HNl.out, HNs.out⟩
end Go.Proofs.Ytdpjaafdpgkclaa
