/-
  A script at both: what the statements' played does.
-/
import Derived.Test.YtdchpiihjjjpfabLx
namespace Go.Proofs.Ytdchpiihjjjpfab
open Go.RowKit
set_option linter.unusedSimpArgs false
set_option linter.unusedVariables false

/-- Calls as they lie in memory, in blocks that S names. -/
def OpsAt (S : Nat → Prop) (w : World) (so : Option Addr) (m : Nat) (O : Nat → Opr) : Prop := ∀ i, i < m → OprOk S w (O i) ∧ ∃ b off, so = some ⟨b, off, none⟩ ∧ S b ∧ w.cell? ⟨b, off + i * 5, none⟩ = some (.int .i64 (O i).kind) ∧ w.cell? ⟨b, off + i * 5 + 1, none⟩ = some (.int .i64 (O i).a) ∧
    w.cell? ⟨b, off + i * 5 + 2, none⟩ = some (.int .i64 (O i).b) ∧ w.cell? ⟨b, off + i * 5 + 3, none⟩ = some (.int .i64 (O i).st) ∧ w.cell? ⟨b, off + i * 5 + 4, none⟩ = some (.slice (O i).ro (O i).rn (O i).rc)
theorem OpsAt.keep {S S' : Nat → Prop} {w w' : World} {so : Option Addr} {m : Nat} {O : Nat → Opr} (h : OpsAt S w so m O) (k : Kp S S' w w') : OpsAt S' w' so m O := by
  intro i hi
  obtain ⟨h1, b, off, e, hs, c0, c1, c2, c3, c4⟩ := h i hi
  exact ⟨h1.keep k, b, off, e, (k _ _ _ hs c0).1, (k _ _ _ hs c0).2, (k _ _ _ hs c1).2, (k _ _ _ hs c2).2, (k _ _ _ hs c3).2, (k _ _ _ hs c4).2⟩
theorem OpsAt.form {S : Nat → Prop} {w : World} {so : Option Addr} {m : Nat} {O : Nat → Opr} (h : OpsAt S w so m O) (hm : 0 < m) : ∃ b off, so = some ⟨b, off, none⟩ := by
  obtain ⟨-, b, off, e, -⟩ := h 0 hm
  exact ⟨b, off, e⟩
theorem OpsAt.get {S : Nat → Prop} {w : World} {b off : Nat} {m : Nat} {O : Nat → Opr} (h : OpsAt S w (some ⟨b, off, none⟩) m O) (i : Nat) (hi : i < m) : w.cell? ⟨b, off + i * 5, none⟩ = some (.int .i64 (O i).kind) ∧ w.cell? ⟨b, off + i * 5 + 1, none⟩ = some (.int .i64 (O i).a) ∧
    w.cell? ⟨b, off + i * 5 + 2, none⟩ = some (.int .i64 (O i).b) ∧ w.cell? ⟨b, off + i * 5 + 3, none⟩ = some (.int .i64 (O i).st) ∧ w.cell? ⟨b, off + i * 5 + 4, none⟩ = some (.slice (O i).ro (O i).rn (O i).rc) := by
  obtain ⟨-, b', off', e, -, c⟩ := h i hi
  injection e with e
  injection e with e1 e2 e3
  subst e1; subst e2
  exact c
/-- The styles and the bare one behind the first k calls. -/
def stN (O : Nat → Opr) (s : List Int) (bare : Int) : Nat → List Int × Int
  | 0 => (s, bare)
  | k + 1 => stp (stN O s bare k).1 (stN O s bare k).2 (O k)
/-- What played leaves. -/
def PlyP (n : Nat) (st : Int) (m : Nat) (O : Nat → Opr) (w : World) (e : Ending) (w' : World) : Prop :=
  ∃ lb b off cp ao cap k s bare, stN O (List.replicate n st) st k = (s, bare) ∧ (k ≤ m ∧ ((k = min m 40) ∨ 5000 < s.length)) ∧ (∀ j, j < k → (stN O (List.replicate n st) st j).1.length ≤ 5000) ∧
    e = .returned (.tuple #[.pointer (some ⟨lb, 0, none⟩), .agg #[.slice (some ⟨b, off, none⟩) s.length cp, .int .i64 bare]]) ∧ w.heap.size ≤ lb ∧ ListAt w' lb ao cap s bare ∧ RfAt (· ≠ lb) w' b off cp s ∧ Below w.heap.size w w'

/-- What holds ahead of a round. -/
structure PlyI (w : World) (lb wb : Nat) (wr : World) (s : List Int) (bare : Int) (b off cp : Nat) (ao : Option Addr) (cap : Nat) : Prop where
  cw : wr.heap[wb]? = some (.cells #[.slice (some ⟨b, off, none⟩) s.length cp, .int .i64 bare] 33 (0, 0))
  cr : wr.heap[w.heap.size]? = some (.cells #[.slice none 0 0, .int .i64 0] 33 (0, 0))
  l : ListAt wr lb ao cap s bare
  rf : RfAt (fun k => k ≠ lb ∧ k ≠ wb ∧ k ≠ w.heap.size) wr b off cp s
  bel : Below w.heap.size w wr
theorem PlyI.drew {w : World} {lb wb : Nat} {wr : World} {s : List Int} {bare : Int} {b off cp : Nat} {ao : Option Addr} {cap : Nat} (h : PlyI w lb wb wr s bare b off cp ao cap) : PlyI w lb wb wr.drew s bare b off cp ao cap :=
  ⟨h.cw, h.cr, h.l.below (Below.refl _ _).drew, h.rf.below (Below.refl _ _).drew, h.bel.trans (Below.refl _ _).drew⟩

/-- The world in which the next call is made: a box more. -/
def wnx (wr : World) : World := (wr.alloc (.cells #[.slice none 0 0, .int .i64 0] 33)).drew
theorem wnx_below (wr : World) : Below wr.heap.size wr (wnx wr) := ((Below.refl _ _).alloc (Nat.le_refl _) _).trans (Below.refl _ _).drew
theorem wnx_size (wr : World) : (wnx wr).heap.size = wr.heap.size + 1 := by show (wr.alloc _).heap.size = _; simp
theorem wnx_box (wr : World) : (wnx wr).heap[wr.heap.size]? = some (.cells #[.slice none 0 0, .int .i64 0] 33 (0, 0)) := heap_alloc_new wr _
/-- Ahead of the store into the list's box. -/
structure PlyJ (w : World) (lb wb : Nat) (W6 : World) (s5 : List Int) (bare5 : Int) (b5 off5 cp5 : Nat) (ao5 : Option Addr) (cap5 : Nat) : Prop where
  cw : ∃ so sn sc y, W6.heap[wb]? = some (.cells #[.slice so sn sc, .int .i64 y] 33 (0, 0))
  cr : W6.heap[w.heap.size]? = some (.cells #[.slice none 0 0, .int .i64 0] 33 (0, 0))
  l : ListAt W6 lb ao5 cap5 s5 bare5
  rf : RfAt (fun k => k ≠ lb ∧ k ≠ wb ∧ k ≠ w.heap.size) W6 b5 off5 cp5 s5
  bel : Below w.heap.size w W6
theorem PlyJ.done {w : World} {lb wb : Nat} {W6 : World} {s5 : List Int} {bare5 : Int} {b5 off5 cp5 : Nat} {ao5 : Option Addr} {cap5 : Nat} (h : PlyJ w lb wb W6 s5 bare5 b5 off5 cp5 ao5 cap5) (hwb : w.heap.size < wb) (hlw : lb ≠ wb) :
    PlyI w lb wb ((W6.setCell ⟨wb, 0, none⟩ (.slice (some ⟨b5, off5, none⟩) s5.length cp5)).setCell ⟨wb, 1, none⟩ (.int .i64 bare5)) s5 bare5 b5 off5 cp5 ao5 cap5 := by
  obtain ⟨so, sn, sc, y, hw⟩ := h.cw
  have P7 := (put2_all (v0 := (.slice (some ⟨b5, off5, none⟩) s5.length cp5)) (v1 := .int .i64 bare5) hw).2.2
  have C7 := set1_heap (v := .int .i64 bare5) (set0_heap (v := (.slice (some ⟨b5, off5, none⟩) s5.length cp5)) hw)
  have z := (Array.getElem?_eq_some_iff.1 h.cr).1
  exact ⟨C7, by rw [P7.block _ z (fun e => by injection e; omega)]; exact h.cr, h.l.other hw (by omega) P7, h.rf.other (fun i hi => (h.rf.ne i hi).2.1) P7, h.bel.trans (grown_below P7 (by omega) h.bel.size)⟩
theorem PlyI.step {w : World} {lb wb : Nat} {wr : World} {s : List Int} {bare : Int} {b off cp : Nat} {ao : Option Addr} {cap : Nat} (h : PlyI w lb wb wr s bare b off cp ao cap) (hlb : w.heap.size < lb) (hwb : w.heap.size < wb) (hlw : lb ≠ wb) {w5 : World} {b5 off5 cp5 : Nat} {ao5 : Option Addr} {cap5 : Nat} {s5 : List Int} {bare5 : Int}
    (hL : ListAt w5 lb ao5 cap5 s5 bare5) {N : Nat → Prop} (hR : RfAt N w5 b5 off5 cp5 s5) (hN : ∀ k, k < w5.heap.size → N k → k ≠ lb ∧ k ≠ wb ∧ k ≠ w.heap.size) (hg : wr.grownBy w5 (some lb)) : PlyJ w lb wb w5 s5 bare5 b5 off5 cp5 ao5 cap5 := by
  have hwlt := (Array.getElem?_eq_some_iff.1 h.cw).1
  have hrlt := (Array.getElem?_eq_some_iff.1 h.cr).1
  exact ⟨⟨_, _, _, _, by rw [hg.block _ hwlt (fun e => by injection e; omega)]; exact h.cw⟩, by rw [hg.block _ hrlt (fun e => by injection e; omega)]; exact h.cr, hL, hR.also (fun k hk hl => hN k hl hk), h.bel.trans (grown_below hg (by omega) (by omega))⟩
theorem PlyJ.alloc {w : World} {lb wb : Nat} {W6 : World} {s5 : List Int} {bare5 : Int} {b5 off5 cp5 : Nat} {ao5 : Option Addr} {cap5 : Nat} (h : PlyJ w lb wb W6 s5 bare5 b5 off5 cp5 ao5 cap5) (o : Obj) : PlyJ w lb wb (W6.alloc o) s5 bare5 b5 off5 cp5 ao5 cap5 := by
  have hb := (Below.refl W6.heap.size W6).alloc (Nat.le_refl _) o
  obtain ⟨so, sn, sc, y, hw⟩ := h.cw
  exact ⟨⟨so, sn, sc, y, by rw [hb.block _ (Array.getElem?_eq_some_iff.1 hw).1]; exact hw⟩, by rw [hb.block _ (Array.getElem?_eq_some_iff.1 h.cr).1]; exact h.cr, h.l.below hb, h.rf.below hb, h.bel.trans (hb.mono h.bel.size)⟩
theorem PlyJ.put {w : World} {lb wb : Nat} {W6 : World} {s5 : List Int} {bare5 : Int} {b5 off5 cp5 : Nat} {ao5 : Option Addr} {cap5 xb : Nat} (h : PlyJ w lb wb W6 s5 bare5 b5 off5 cp5 ao5 cap5) (hx : W6.heap[xb]? = some (.cells #[.slice none 0 0, .int .i64 0] 33 (0, 0))) (h1 : xb ≠ lb) (h2 : xb ≠ wb) (h3 : w.heap.size < xb) (h4 : ∀ i, i < s5.length → b5 ≠ xb) (v0 v1 : Value) :
    PlyJ w lb wb ((W6.setCell ⟨xb, 0, none⟩ v0).setCell ⟨xb, 1, none⟩ v1) s5 bare5 b5 off5 cp5 ao5 cap5 := by
  have P7 := (put2_all (v0 := v0) (v1 := v1) hx).2.2
  obtain ⟨so, sn, sc, y, hw⟩ := h.cw
  exact ⟨⟨so, sn, sc, y, by rw [P7.block _ (Array.getElem?_eq_some_iff.1 hw).1 (fun e => by injection e; omega)]; exact hw⟩, by rw [P7.block _ (Array.getElem?_eq_some_iff.1 h.cr).1 (fun e => by injection e; omega)]; exact h.cr, h.l.other hx (by omega) P7, h.rf.other h4 P7, h.bel.trans (grown_below P7 (by omega) h.bel.size)⟩

set_option maxRecDepth 100000 in
set_option maxHeartbeats 4000000 in
theorem played_any (n : Nat) (st : Int) (hn : n ≤ 500) (hst : 0 ≤ st ∧ st < 32) (so : Option Addr) (m sc : Nat) (O : Nat → Opr) (w : World) (hm : m ≤ maxLen) (ho : OpsAt (fun _ => True) w so m O) :
    Calls Try.prog 10 #[.int .i64 (n : Nat), .int .i64 st, .slice so m sc] w fun e w' => PlyP n st m O w e w' := by
  have hE : newE (n : Int) st = 0 := by unfold newE; rw [if_neg (by omega), if_pos ((stb_iff st).2 hst)]
  have HNW := boxed (fun (w1 : World) => new_any (n : Int) st w1 ⟨by omega, by omega⟩)
  have HRN := boxed (fun (w1 : World) => rnew_any (n : Int) st w1 ⟨by omega, by omega⟩)
  have e1 : ((n : Int)).toNat = n := by simp
  have HO := boxed (ho.keep (S' := fun k => k < w.heap.size) (w' := w) (fun b i u _ hc => ⟨by have := World.block_lt_of_cell? w ⟨b, i, none⟩ hc; simpa using this, hc⟩))
  clear ho
  go_enter Try.func10, Try.ntmps10
  go_wp2_with fail
  refine (HNW.out _).mono ?_
  rintro e w1 h1
  obtain ⟨-, lb, ao, cap, rfl, hlb, hL, hb1⟩ := h1.resolve_left (fun h => h.1 hE)
  obtain ⟨W0, hW0⟩ : ∃ W0, w.alloc (.cells #[.slice none 0 0, .int .i64 0] 33) = W0 := ⟨_, rfl⟩
  have hz0 : W0.heap.size = w.heap.size + 1 := by rw [← hW0]; simp
  have hr0 : W0.heap[w.heap.size]? = some (.cells #[.slice none 0 0, .int .i64 0] 33 (0, 0)) := by rw [← hW0]; exact heap_alloc_new _ _
  have hb0 : Below w.heap.size w W0 := by rw [← hW0]; exact (Below.refl _ _).alloc (Nat.le_refl _) _
  rw [hW0] at hlb hb1
  have hr1 : w1.heap[w.heap.size]? = some (.cells #[.slice none 0 0, .int .i64 0] 33 (0, 0)) := by rw [hb1.block _ (by omega)]; exact hr0
  have hlt1 := hL.lt
  have HB1 := boxed (below_step hb0 (Nat.le_refl _) hb1)
  have HR1 := boxed hr1
  have HL1 := boxed hL
  clear h1 hL hb1 hr0 hr1 hb0 hW0 HNW
  go_wp2_with fail
  refine (HRN.out _).mono ?_
  rintro e w2 h2
  obtain ⟨-, b, cp, rfl, hRF, hb2⟩ := h2.resolve_left (fun h => h.1 hE)
  obtain ⟨W3, hW3⟩ : ∃ W3, w2.alloc (.cells #[.slice (some ⟨b, 0, none⟩) (List.replicate ((n : Int)).toNat st).length cp, .int .i64 st] 33) = W3 := ⟨_, rfl⟩
  have hz2 := hb2.size
  have hb3 : Below w2.heap.size w2 W3 := by rw [← hW3]; exact (Below.refl _ _).alloc (Nat.le_refl _) _
  have hz3 : W3.heap.size = w2.heap.size + 1 := by rw [← hW3]; simp
  have hw3 : W3.heap[w2.heap.size]? = some (.cells #[.slice (some ⟨b, 0, none⟩) (List.replicate n st).length cp, .int .i64 st] 33 (0, 0)) := by rw [← hW3]; rw [heap_alloc_new, e1]
  have HINV : Box (W3.heap[w2.heap.size]? = some (.cells #[.slice (some ⟨b, 0, none⟩) (List.replicate n st).length cp, .int .i64 st] 33 (0, 0)) ∧ W3.heap[w.heap.size]? = some (.cells #[.slice none 0 0, .int .i64 0] 33 (0, 0)) ∧ ListAt W3 lb ao cap (List.replicate n st) st ∧ RfAt (fun k => k ≠ lb ∧ k ≠ w2.heap.size ∧ k ≠ w.heap.size) W3 b 0 cp (List.replicate n st) ∧ Below w.heap.size w W3) := boxed (by
    have hb23 : Below w1.heap.size w1 W3 := below_step hb2 (Nat.le_refl _) hb3
    refine ⟨hw3, by rw [hb23.block _ (by omega)]; exact HR1.out, ?_, ?_, below_step HB1.out (Nat.le_refl _) hb23⟩
    · have := HL1.out.below hb23
      rwa [e1] at this
    · have h := ((hRF (fun k => k ≠ lb ∧ k ≠ w.heap.size) (fun k hk => ⟨by omega, by omega⟩)).also (N' := fun k => k ≠ lb ∧ k ≠ w2.heap.size ∧ k ≠ w.heap.size) (fun k hk hl => ⟨hk.1, by omega, hk.2⟩)).below hb3
      rwa [e1] at h)
  obtain ⟨d0, d1, f0, f1⟩ := box_facts hw3
  have hlt3 : lb < W3.heap.size := by omega
  have hwb : w2.heap.size < W3.heap.size := by omega
  have hlb' : w.heap.size < lb := by omega
  have hwb' : w.heap.size < w2.heap.size := by omega
  have hlw : lb ≠ w2.heap.size := by omega
  clear h2 hRF hb2 hb3 HRN HB1 HR1 HL1 hw3 d0 d1 f0 f1
  rw [e1] at hW3
  simp only [List.length_replicate] at hW3
  unfold maxLen at hm
  go_wp2_with fail
  clear hW3
  go_loopw [12] (fun vi wr => ∃ (i : Nat) (s : List Int) (bare : Int) (b off cp : Nat) (ao : Option Addr) (cap : Nat), i ≤ m ∧ i ≤ 40 ∧ vi = .int .i64 (i : Nat) ∧ Box (stN O (List.replicate n st) st i = (s, bare) ∧ ∀ j, j < i → (stN O (List.replicate n st) st j).1.length ≤ 5000) ∧ Box (PlyI w lb w2.heap.size wr s bare b off cp ao cap)) (fun vi _ => 40 - (intOf vi).toNat)
  case atStart => exact ⟨0, List.replicate n st, st, b, 0, cp, ao, cap, Nat.zero_le _, Nat.zero_le _, rfl, boxed ⟨rfl, fun j hj => by omega⟩, boxed ⟨HINV.out.1, HINV.out.2.1, HINV.out.2.2.1, HINV.out.2.2.2.1, HINV.out.2.2.2.2⟩⟩
  case round =>
    clear HINV
    obtain ⟨i, s, bare, b, off, cp, ao, cap, him, hi40, rfl, HST, HI⟩ := hrel
    obtain ⟨d0, d1, f0, f1⟩ := box_facts HI.out.cw
    obtain ⟨g0, g1, k0, k1⟩ := box_facts HI.out.cr
    have hsl := HI.out.rf.len
    have HEND : Box (((i = min m 40) ∨ 5000 < s.length) → PlyP n st m O w (.returned (.tuple #[.pointer (some ⟨lb, 0, none⟩), .agg #[.slice (some ⟨b, off, none⟩) s.length cp, .int .i64 bare]])) ((wr.setCell ⟨w.heap.size, 0, none⟩ (.slice (some ⟨b, off, none⟩) s.length cp)).setCell ⟨w.heap.size, 1, none⟩ (.int .i64 bare)).drew) := boxed (fun hk => by
      have hI := HI.out
      have HP := put2_all (v0 := .slice (some ⟨b, off, none⟩) s.length cp) (v1 := .int .i64 bare) hI.cr
      exact ⟨lb, b, off, cp, ao, cap, i, s, bare, HST.out.1, ⟨him, hk⟩, HST.out.2, rfl, by omega, (hI.l.other hI.cr (by omega) HP.2.2).below (Below.refl _ _).drew, ((hI.rf.other (fun j hj => (hI.rf.ne j hj).2.2) HP.2.2).also (fun k hk _ => hk.1)).below (Below.refl _ _).drew, (hI.bel.trans (grown_below HP.2.2 (Nat.le_refl _) hI.bel.size)).trans (Below.refl _ _).drew⟩)
    have HKW : Box (wr.drew.cell? ⟨w2.heap.size, 0, none⟩ = some (.slice (some ⟨b, off, none⟩) s.length cp) ∧ wr.drew.cell? ⟨w2.heap.size, 1, none⟩ = some (.int .i64 bare)) := boxed ⟨d0, d1⟩
    have HKS : Box (∀ u0 u1, ((wr.setCell ⟨w.heap.size, 0, none⟩ u0).setCell ⟨w.heap.size, 1, none⟩ u1).drew.cell? ⟨w2.heap.size, 0, none⟩ = some (.slice (some ⟨b, off, none⟩) s.length cp) ∧ ((wr.setCell ⟨w.heap.size, 0, none⟩ u0).setCell ⟨w.heap.size, 1, none⟩ u1).drew.cell? ⟨w2.heap.size, 1, none⟩ = some (.int .i64 bare)) := boxed (fun u0 u1 => far2 (by omega) d0 d1)
    have HPP := boxed (put2_all (v0 := .slice (some ⟨b, off, none⟩) s.length cp) (v1 := .int .i64 bare) HI.out.cr)
    by_cases hgo : i < m ∧ i < 40
    · by_cases hbig : 5000 < s.length
      · have t5 : decide ((5000 : Int) < (s.length : Int)) = true := decide_eq_true (by omega)
        have t5' : decide (5000 < s.length) = true := decide_eq_true hbig
        go_wp2_with fail
        have e0 : wr.drew.cell? ⟨w.heap.size, 0, none⟩ = some (.slice none 0 0) := g0
        have e1' : wr.drew.cell? ⟨w.heap.size, 1, none⟩ = some (.int .i64 0) := g1
        have e2 : wr.drew.frozen? ⟨w.heap.size, 0, none⟩ = false := k0
        have e3 : wr.drew.frozen? ⟨w.heap.size, 1, none⟩ = false := k1
        go_region_held3 (fun W' => W'.cell? ⟨w2.heap.size, 0, none⟩ = some (.slice (some ⟨b, off, none⟩) s.length cp) ∧ W'.cell? ⟨w2.heap.size, 1, none⟩ = some (.int .i64 bare))
          (first | with_reducible exact HKW.out | with_reducible exact HKS.out _ _)
          (fail)
        go_wp2
        have p0 : ((wr.setCell ⟨w.heap.size, 0, none⟩ (.slice (some ⟨b, off, none⟩) s.length cp)).setCell ⟨w.heap.size, 1, none⟩ (.int .i64 bare)).drew.cell? ⟨w.heap.size, 0, none⟩ = _ := HPP.out.1
        have p1 : ((wr.setCell ⟨w.heap.size, 0, none⟩ (.slice (some ⟨b, off, none⟩) s.length cp)).setCell ⟨w.heap.size, 1, none⟩ (.int .i64 bare)).drew.cell? ⟨w.heap.size, 1, none⟩ = _ := HPP.out.2.1
        refine bodyPost_ret (v := .tuple #[.pointer (some ⟨lb, 0, none⟩), .agg #[.slice (some ⟨b, off, none⟩) s.length cp, .int .i64 bare]]) (by simp [results, Try.results10, go_sem, HPP.out.1, HPP.out.2.1]) rfl ?_
        exact HEND.out (.inr hbig)
      · have t5 : decide ((5000 : Int) < (s.length : Int)) = false := decide_eq_false (by omega)
        have t5' : decide (5000 < s.length) = false := decide_eq_false hbig
        obtain ⟨ob, ooff, rfl⟩ := HO.out.form (by omega)
        have HOr := boxed (HO.out.keep (S' := fun k => k < w.heap.size) (w' := wr) (fun k j u hs hc => ⟨hs, by rw [HI.out.bel.cell (p := ⟨k, j, none⟩) hs]; exact hc⟩))
        obtain ⟨c0, c1, c2, c3, c4⟩ := HOr.out.get i hgo.1
        have HNL : Box (lb < wr.heap.size ∧ w2.heap.size < wr.heap.size ∧ w.heap.size < wr.heap.size) := boxed ⟨HI.out.l.lt, (Array.getElem?_eq_some_iff.1 HI.out.cw).1, (Array.getElem?_eq_some_iff.1 HI.out.cr).1⟩
        have HS := boxed (fun (W : World) (hW : Below wr.heap.size wr W) => step_any (o := O i) (N := fun k => (k ≠ lb ∧ k ≠ w2.heap.size ∧ k ≠ w.heap.size) ∧ k ≠ wr.heap.size ∨ k = wr.heap.size ∧ W.heap.size = wr.heap.size) (HI.out.l.below hW) ((HI.out.rf.also (fun k hk hl => .inl ⟨hk, by omega⟩)).below hW) (fun k hk => by have := HNL.out; rcases hk with hk | hk; exact hk.1.1; omega) (fun k hk => by
          have h := HNL.out
          have h3 := hW.size
          by_cases c : k = wr.heap.size
          · exact .inr ⟨c, by omega⟩
          · exact .inl ⟨⟨by omega, by omega, by omega⟩, by omega⟩) ((HOr.out i hgo.1).1.keep (S' := fun k => k ≠ lb) (w' := W) (fun k j u hs hc => ⟨by omega, hold hW hc⟩)))
        have HSN : Box (stN O (List.replicate n st) st (i + 1) = stp s bare (O i)) := boxed (by show stp _ _ _ = _; rw [HST.out.1])
        have hob : ob < w.heap.size := by
          obtain ⟨-, b', off', e, hs, -⟩ := HO.out i hgo.1
          injection e with e
          injection e with e1 e2 e3
          omega
        have HX : Box (∀ W', wr.grownBy W' (some lb) → W'.cell? ⟨w2.heap.size, 0, none⟩ = some (.slice (some ⟨b, off, none⟩) s.length cp) ∧ W'.cell? ⟨w2.heap.size, 1, none⟩ = some (.int .i64 bare) ∧ W'.cell? ⟨ob, ooff + i * 5, none⟩ = some (.int .i64 (O i).kind) ∧ W'.cell? ⟨ob, ooff + i * 5 + 1, none⟩ = some (.int .i64 (O i).a) ∧ W'.cell? ⟨ob, ooff + i * 5 + 2, none⟩ = some (.int .i64 (O i).b) ∧ W'.cell? ⟨ob, ooff + i * 5 + 3, none⟩ = some (.int .i64 (O i).st) ∧ W'.cell? ⟨ob, ooff + i * 5 + 4, none⟩ = some (.slice (O i).ro (O i).rn (O i).rc)) := boxed (fun W' hg => by
          refine ⟨hg.cell d0 ?_, hg.cell d1 ?_, hg.cell c0 ?_, hg.cell c1 ?_, hg.cell c2 ?_, hg.cell c3 ?_, hg.cell c4 ?_⟩
          all_goals (intro e; injection e with e; dsimp only at e; omega))
        have HDa : Box (Below wr.heap.size wr (wnx wr)) := boxed (wnx_below wr)
        have HDb : Box (Below wr.heap.size wr wr.drew) := boxed (Below.refl _ _).drew
        have hnl := HNL.out
        have HXS : Box (∀ W' r u0 u1, wr.grownBy W' (some lb) → wr.heap.size ≤ r → ((W'.setCell ⟨r, 0, none⟩ u0).setCell ⟨r, 1, none⟩ u1).cell? ⟨w2.heap.size, 0, none⟩ = some (.slice (some ⟨b, off, none⟩) s.length cp) ∧ ((W'.setCell ⟨r, 0, none⟩ u0).setCell ⟨r, 1, none⟩ u1).cell? ⟨w2.heap.size, 1, none⟩ = some (.int .i64 bare) ∧ ((W'.setCell ⟨r, 0, none⟩ u0).setCell ⟨r, 1, none⟩ u1).cell? ⟨ob, ooff + i * 5, none⟩ = some (.int .i64 (O i).kind) ∧ ((W'.setCell ⟨r, 0, none⟩ u0).setCell ⟨r, 1, none⟩ u1).cell? ⟨ob, ooff + i * 5 + 1, none⟩ = some (.int .i64 (O i).a) ∧ ((W'.setCell ⟨r, 0, none⟩ u0).setCell ⟨r, 1, none⟩ u1).cell? ⟨ob, ooff + i * 5 + 2, none⟩ = some (.int .i64 (O i).b) ∧ ((W'.setCell ⟨r, 0, none⟩ u0).setCell ⟨r, 1, none⟩ u1).cell? ⟨ob, ooff + i * 5 + 3, none⟩ = some (.int .i64 (O i).st) ∧ ((W'.setCell ⟨r, 0, none⟩ u0).setCell ⟨r, 1, none⟩ u1).cell? ⟨ob, ooff + i * 5 + 4, none⟩ = some (.slice (O i).ro (O i).rn (O i).rc)) := boxed (fun W' r u0 u1 hg hr => ⟨(World.cell?_setCell_far _ _ _ _ (by dsimp only; omega)).trans ((World.cell?_setCell_far _ _ _ _ (by dsimp only; omega)).trans (HX.out W' hg).1), (World.cell?_setCell_far _ _ _ _ (by dsimp only; omega)).trans ((World.cell?_setCell_far _ _ _ _ (by dsimp only; omega)).trans (HX.out W' hg).2.1), (World.cell?_setCell_far _ _ _ _ (by dsimp only; omega)).trans ((World.cell?_setCell_far _ _ _ _ (by dsimp only; omega)).trans (HX.out W' hg).2.2.1), (World.cell?_setCell_far _ _ _ _ (by dsimp only; omega)).trans ((World.cell?_setCell_far _ _ _ _ (by dsimp only; omega)).trans (HX.out W' hg).2.2.2.1), (World.cell?_setCell_far _ _ _ _ (by dsimp only; omega)).trans ((World.cell?_setCell_far _ _ _ _ (by dsimp only; omega)).trans (HX.out W' hg).2.2.2.2.1), (World.cell?_setCell_far _ _ _ _ (by dsimp only; omega)).trans ((World.cell?_setCell_far _ _ _ _ (by dsimp only; omega)).trans (HX.out W' hg).2.2.2.2.2.1), (World.cell?_setCell_far _ _ _ _ (by dsimp only; omega)).trans ((World.cell?_setCell_far _ _ _ _ (by dsimp only; omega)).trans (HX.out W' hg).2.2.2.2.2.2)⟩)
        have hx0 := wnx_box wr
        have HWX := boxed hx0
        clear hx0
        have HXB : Box (∀ W', (wnx wr).grownBy W' (some lb) → W'.heap[wr.heap.size]? = some (.cells #[.slice none 0 0, .int .i64 0] 33 (0, 0))) := boxed (fun W' hg => by rw [hg.block _ (by rw [wnx_size]; omega) (fun e => by injection e; omega)]; exact HWX.out)
        generalize (O i).kind = oK at *
        generalize (O i).a = oA at *
        generalize (O i).b = oB at *
        generalize (O i).st = oC at *
        generalize (O i).ro = oR at *
        generalize (O i).rn = oN at *
        generalize (O i).rc = oQ at *
        clear c0 c1 c2 c3 c4 f0 f1
        go_wp2_with fail
        clear d0 d1
        go_region_held3 (fun W' => W'.cell? ⟨w2.heap.size, 0, none⟩ = some (.slice (some ⟨b, off, none⟩) s.length cp) ∧ W'.cell? ⟨w2.heap.size, 1, none⟩ = some (.int .i64 bare) ∧ W'.cell? ⟨ob, ooff + i * 5, none⟩ = some (.int .i64 oK) ∧ W'.cell? ⟨ob, ooff + i * 5 + 1, none⟩ = some (.int .i64 oA) ∧ W'.cell? ⟨ob, ooff + i * 5 + 2, none⟩ = some (.int .i64 oB) ∧ W'.cell? ⟨ob, ooff + i * 5 + 3, none⟩ = some (.int .i64 oC) ∧ W'.cell? ⟨ob, ooff + i * 5 + 4, none⟩ = some (.slice oR oN oQ))
          (first | with_reducible exact HX.out _ (below_grown HDb.out _) | exact HX.out _ (below_grown HDa.out _) | with_reducible exact HX.out _ HD5.out | with_reducible exact HX.out _ (grown_trans HD5.out (World.grownBy_alloc _ _ _)) | with_reducible exact HXS.out _ _ _ _ HD5.out (Nat.le_refl _) | with_reducible exact HXS.out _ _ _ _ (grown_trans HD5.out (World.grownBy_alloc _ _ _)) HD5.out.size)
          (first | (go_at_call 19; refine (HS.out wr.drew HDb.out).mono ?_; rintro e w5 ⟨b5, off5, cp5, ao5, cap5, rfl, hL5, hR5, hg5⟩; have HD5 := boxed (grown_trans (below_grown HDb.out (some lb)) hg5); have HL5 := boxed hL5; have HR5 := boxed hR5; clear hL5 hR5 hg5) | (go_at_call 19; refine (HS.out (wnx wr) HDa.out).mono ?_; rintro e w5 ⟨b5, off5, cp5, ao5, cap5, rfl, hL5, hR5, hg5⟩; have HD5 := boxed (grown_trans (below_grown HDa.out (some lb)) hg5); have HG5 := boxed hg5; have HL5 := boxed hL5; have HR5 := boxed hR5; clear hL5 hR5 hg5; obtain ⟨x0, x1, y0, y1⟩ := box_facts (HXB.out _ HG5.out)))
        all_goals first
          | (have HJ : Box (PlyJ w lb w2.heap.size _ _ _ b5 off5 cp5 ao5 cap5) := boxed ((HI.out.step hlb' hwb' hlw HL5.out HR5.out (fun k hl hk => by rcases hk with hk | hk; exact hk.1; (exfalso; have := wnx_size wr; omega)) HD5.out).put (HXB.out _ HG5.out) (by omega) (by omega) (by omega) (fun i hi => by have := HR5.out.ne i hi; rcases this with h | h; exact h.2; (exfalso; have := wnx_size wr; omega)) (.slice (some ⟨b5, off5, none⟩) (stp s bare (O i)).1.length cp5) (.int .i64 (stp s bare (O i)).2))
             have HQ := boxed (put2_all (v0 := .slice (some ⟨b5, off5, none⟩) (stp s bare (O i)).1.length cp5) (v1 := .int .i64 (stp s bare (O i)).2) (HXB.out _ HG5.out))
             obtain ⟨so, sn, sc', yy, hcw⟩ := HJ.out.cw
             obtain ⟨q0, q1, q2, q3⟩ := box_facts hcw
             have HF := boxed (HJ.out.done hwb' hlw)
             have q4 := HQ.out.1
             have q5 := HQ.out.2.1
             clear hcw x0 x1 y0 y1 HX HXS HXB HJ HQ
             generalize stp s bare (O i) = P at *
             obtain ⟨s5, bare5⟩ := P
             dsimp only at *
             go_wp2_with fail
             go_roundw
             case rel => exact ⟨i + 1, s5, bare5, b5, off5, cp5, ao5, cap5, by omega, by omega, by go_num, boxed ⟨HSN.out, fun j hj => by by_cases c : j = i; (subst c; rw [HST.out.1]; dsimp only; omega); exact HST.out.2 j (by omega)⟩, HF⟩
             case measure => simp [intOf]; omega)
          | (have HJ : Box (PlyJ w lb w2.heap.size _ _ _ b5 off5 cp5 ao5 cap5) := boxed ((HI.out.step hlb' hwb' hlw HL5.out HR5.out (fun k hl hk => by rcases hk with hk | hk; exact hk.1; exact ⟨by omega, by omega, by omega⟩) HD5.out).alloc (.cells #[.slice (some ⟨b5, off5, none⟩) (stp s bare (O i)).1.length cp5, .int .i64 (stp s bare (O i)).2] 33))
             have q4 : (w5.alloc (.cells #[.slice (some ⟨b5, off5, none⟩) (stp s bare (O i)).1.length cp5, .int .i64 (stp s bare (O i)).2] 33)).cell? ⟨w5.heap.size, 0, none⟩ = some (.slice (some ⟨b5, off5, none⟩) (stp s bare (O i)).1.length cp5) := by rw [cell_new _ _ _ _ _ rfl]; rfl
             have q5 : (w5.alloc (.cells #[.slice (some ⟨b5, off5, none⟩) (stp s bare (O i)).1.length cp5, .int .i64 (stp s bare (O i)).2] 33)).cell? ⟨w5.heap.size, 1, none⟩ = some (.int .i64 (stp s bare (O i)).2) := by rw [cell_new _ _ _ _ _ rfl]; rfl
             obtain ⟨so, sn, sc', yy, hcw⟩ := HJ.out.cw
             obtain ⟨q0, q1, q2, q3⟩ := box_facts hcw
             have HF := boxed (HJ.out.done hwb' hlw)
             clear hcw HX HXS HXB HJ
             generalize stp s bare (O i) = P at *
             obtain ⟨s5, bare5⟩ := P
             dsimp only at *
             obtain ⟨w6, hw6⟩ : ∃ w6, w5.alloc (.cells #[.slice (some ⟨b5, off5, none⟩) s5.length cp5, .int .i64 bare5] 33) = w6 := ⟨_, rfl⟩
             rw [hw6] at q0 q1 q2 q3 q4 q5 HF
             rw [hw6]
             clear hw6
             go_wp2_with fail
             go_roundw
             case rel => exact ⟨i + 1, s5, bare5, b5, off5, cp5, ao5, cap5, by omega, by omega, by go_num, boxed ⟨HSN.out, fun j hj => by by_cases c : j = i; (subst c; rw [HST.out.1]; dsimp only; omega); exact HST.out.2 j (by omega)⟩, HF⟩
             case measure => simp [intOf]; omega)
    · have hmin : i = min m 40 := by omega
      have tg : decide ((i : Int) < (m : Int)) = decide (i < m) := by simp
      clear HO
      by_cases hge : i < m
      · have h40 : i = 40 := by omega
        go_wp2_with fail
        have e0 : wr.drew.cell? ⟨w.heap.size, 0, none⟩ = some (.slice none 0 0) := g0
        have e1' : wr.drew.cell? ⟨w.heap.size, 1, none⟩ = some (.int .i64 0) := g1
        have e2 : wr.drew.frozen? ⟨w.heap.size, 0, none⟩ = false := k0
        have e3 : wr.drew.frozen? ⟨w.heap.size, 1, none⟩ = false := k1
        go_region_held3 (fun W' => W'.cell? ⟨w2.heap.size, 0, none⟩ = some (.slice (some ⟨b, off, none⟩) s.length cp) ∧ W'.cell? ⟨w2.heap.size, 1, none⟩ = some (.int .i64 bare))
          (first | with_reducible exact HKW.out | with_reducible exact HKS.out _ _)
          (fail)
        go_wp2
        have p0 : ((wr.setCell ⟨w.heap.size, 0, none⟩ (.slice (some ⟨b, off, none⟩) s.length cp)).setCell ⟨w.heap.size, 1, none⟩ (.int .i64 bare)).drew.cell? ⟨w.heap.size, 0, none⟩ = _ := HPP.out.1
        have p1 : ((wr.setCell ⟨w.heap.size, 0, none⟩ (.slice (some ⟨b, off, none⟩) s.length cp)).setCell ⟨w.heap.size, 1, none⟩ (.int .i64 bare)).drew.cell? ⟨w.heap.size, 1, none⟩ = _ := HPP.out.2.1
        refine bodyPost_ret (v := .tuple #[.pointer (some ⟨lb, 0, none⟩), .agg #[.slice (some ⟨b, off, none⟩) s.length cp, .int .i64 bare]]) (by simp [results, Try.results10, go_sem, HPP.out.1, HPP.out.2.1]) rfl ?_
        exact HEND.out (.inl hmin)
      · have hem : i = m := by omega
        go_wp2_with fail
        have e0 : wr.drew.cell? ⟨w.heap.size, 0, none⟩ = some (.slice none 0 0) := g0
        have e1' : wr.drew.cell? ⟨w.heap.size, 1, none⟩ = some (.int .i64 0) := g1
        have e2 : wr.drew.frozen? ⟨w.heap.size, 0, none⟩ = false := k0
        have e3 : wr.drew.frozen? ⟨w.heap.size, 1, none⟩ = false := k1
        go_region_held3 (fun W' => W'.cell? ⟨w2.heap.size, 0, none⟩ = some (.slice (some ⟨b, off, none⟩) s.length cp) ∧ W'.cell? ⟨w2.heap.size, 1, none⟩ = some (.int .i64 bare))
          (first | with_reducible exact HKW.out | with_reducible exact HKS.out _ _)
          (fail)
        go_wp2
        have p0 : ((wr.setCell ⟨w.heap.size, 0, none⟩ (.slice (some ⟨b, off, none⟩) s.length cp)).setCell ⟨w.heap.size, 1, none⟩ (.int .i64 bare)).drew.cell? ⟨w.heap.size, 0, none⟩ = _ := HPP.out.1
        have p1 : ((wr.setCell ⟨w.heap.size, 0, none⟩ (.slice (some ⟨b, off, none⟩) s.length cp)).setCell ⟨w.heap.size, 1, none⟩ (.int .i64 bare)).drew.cell? ⟨w.heap.size, 1, none⟩ = _ := HPP.out.2.1
        refine bodyPost_ret (v := .tuple #[.pointer (some ⟨lb, 0, none⟩), .agg #[.slice (some ⟨b, off, none⟩) s.length cp, .int .i64 bare]]) (by simp [results, Try.results10, go_sem, HPP.out.1, HPP.out.2.1]) rfl ?_
        exact HEND.out (.inl hmin)
end Go.Proofs.Ytdchpiihjjjpfab
