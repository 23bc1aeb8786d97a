/-
  Pages in a row of one's own, whose lines may lie anywhere else (by mkag.py).
-/
import Derived.Test.YtoodhpgaikmalaaAf
namespace Go.Proofs.Ytoodhpgaikmalaa
open Go.RowKit
set_option linter.unusedSimpArgs false
set_option linter.unusedVariables false

/-- Pages in a row of one's own; their lines may lie anywhere but there. -/
def PgQ (B : Nat) (w : World) (ao : Option Addr) (cap : Nat) (ps : List (List Key)) : Prop := ∃ vs : List Value, w.ownsRow B 34 1 (.slice ao ps.length cap) ps.length vs ∧ ∀ (i : Nat) (ks : List Key), ps[i]? = some ks → ∃ la lc, vs[i]? = some (Value.slice la ks.length lc) ∧ Sl la lc ks.length ∧ LsAt (fun b => (Value.slice ao ps.length cap).ownBlock ≠ some b) w la ks
theorem PgQ.at {B : Nat} {w : World} {ao : Option Addr} {cap : Nat} {ps : List (List Key)} (h : PgQ B w ao cap ps) : PsAt (fun _ => True) w ao ps := by
  obtain ⟨vs, ho, h⟩ := h
  intro i ks hi
  have hl := (List.getElem?_eq_some_iff.1 hi).1
  obtain ⟨la, lc, h1, h2, h3⟩ := h i ks hi
  obtain ⟨g, cp, e⟩ := ownsRow_form ho (by omega)
  injection e with e1 e2 e3
  subst e1
  refine ⟨g, 0, la, lc, rfl, trivial, ?_, h2, h3.kp (fun b j u hs hc => ⟨trivial, hc⟩)⟩
  rw [Nat.zero_add, ho.cellAt i (by omega)]; exact h1
theorem PgQ.cap {B : Nat} {w : World} {ao : Option Addr} {cap : Nat} {ps : List (List Key)} (h : PgQ B w ao cap ps) : Sl ao cap ps.length := by
  obtain ⟨vs, ho, -⟩ := h
  exact sl_own ho
theorem PgQ.keep {B : Nat} {w w' : World} {ao : Option Addr} {cap : Nat} {ps : List (List Key)} (h : PgQ B w ao cap ps) (hb : Below w.heap.size w w') : PgQ B w' ao cap ps := by
  obtain ⟨vs, ho, h⟩ := h
  refine ⟨vs, owns_below ho hb, fun i ks hi => ?_⟩
  obtain ⟨la, lc, h1, h2, h3⟩ := h i ks hi
  exact ⟨la, lc, h1, h2, h3.below hb⟩
theorem PgQ.form {B : Nat} {w : World} {ao : Option Addr} {cap : Nat} {ps : List (List Key)} (h : PgQ B w ao cap ps) (hn : 0 < ps.length) : ∃ g, ao = some ⟨g, 0, none⟩ ∧ B ≤ g ∧ g < w.heap.size := by
  obtain ⟨vs, ho, -⟩ := h
  obtain ⟨g, cp, e⟩ := ownsRow_form ho hn
  injection e with e1 e2 e3
  subst e1
  exact ⟨g, rfl, ho.lt g rfl⟩
theorem PgQ.get {B : Nat} {w : World} {g : Nat} {cap : Nat} {ps : List (List Key)} (h : PgQ B w (some ⟨g, 0, none⟩) cap ps) (i : Nat) (ks : List Key) (hi : ps[i]? = some ks) : w.frozen? ⟨g, i, none⟩ = false ∧ ∃ la lc, w.cell? ⟨g, i, none⟩ = some (.slice la ks.length lc) := by
  obtain ⟨vs, ho, h⟩ := h
  obtain ⟨la, lc, h1, h2, h3⟩ := h i ks hi
  refine ⟨ho.frozenAt i, la, lc, ?_⟩
  rw [ho.cellAt i (by have := (List.getElem?_eq_some_iff.1 hi).1; omega)]; exact h1
theorem PgQ.set {B : Nat} {w w5 : World} {g : Nat} {cap : Nat} {ps : List (List Key)} (h : PgQ B w (some ⟨g, 0, none⟩) cap ps) (hb : Below w.heap.size w w5) (p : Nat) (hp : p < ps.length) (ks : List Key) (la : Option Addr) (lc : Nat) (hs : Sl la lc ks.length) (hl : LsAt (fun b => b ≠ g) w5 la ks) : PgQ B (w5.setCell ⟨g, p, none⟩ (.slice la ks.length lc)) (some ⟨g, 0, none⟩) cap (ps.set p ks) := by
  obtain ⟨vs, ho, h⟩ := h
  have ho5 := owns_below ho hb
  have hst := (ho5.stored p (.slice la ks.length lc)).1
  have hg := grown_set w5 g p (.slice la ks.length lc)
  have hvl := ho.1
  rw [Nat.mul_one] at hvl
  have hkp : KpH (fun b => b ≠ g) (fun b => (Value.slice (some ⟨g, 0, none⟩) ps.length cap).ownBlock ≠ some b) w5 (w5.setCell ⟨g, p, none⟩ (.slice la ks.length lc)) := fun b hb hl => ⟨fun e => by simp [Value.ownBlock] at e; exact hb e.symm, hg.block b hl (by simp; exact hb)⟩
  refine ⟨vs.set p (.slice la ks.length lc), by simpa using hst, fun i ls hi => ?_⟩
  rw [List.length_set]
  by_cases c : i = p
  · subst c
    rw [List.getElem?_set_self hp] at hi
    injection hi with hi
    subst hi
    exact ⟨la, lc, by rw [List.getElem?_set_self (by omega)], hs, hl.kp hkp.kp⟩
  · rw [List.getElem?_set_ne (by omega)] at hi
    obtain ⟨la', lc', k1, k2, k3⟩ := h i ls hi
    refine ⟨la', lc', by rw [List.getElem?_set_ne (by omega)]; exact k1, k2, ?_⟩
    exact (k3.below hb).kp (KpH.kp (fun b hb hl => hkp b (fun e => hb (by simp [Value.ownBlock, e])) hl))
/-- One more page, appended. -/
theorem wpList_pushQ {w : World} {ops : Array Oper} {rest : List Oper} {o : Oper} {a : Act} {Q : Exit → Act → World → Prop} (hgd : o.guard = none) (s x : Operand)
    (ho : o.op = .call { callee := .builtin .append, args := #[s, x], argTypes := #[22, 22] })
    (B : Nat) (ao : Option Addr) (cap : Nat) (ps : List (List Key)) (hs : a.eval s = .slice ao ps.length cap) (h : PgQ B w ao cap ps) (g c : Nat) (hx : a.eval x = .slice (some ⟨g, 0, none⟩) 1 c) (ks : List Key) (la : Option Addr) (lc : Nat)
    (hg : w.cell? ⟨g, 0, none⟩ = some (.slice la ks.length lc)) (hl : Sl la lc ks.length) (hls : LsAt (fun b => (Value.slice ao ps.length cap).ownBlock ≠ some b) w la ks) (hbig : ps.length ≤ 1000) (hB : B ≤ w.heap.size)
    (hk : ∀ ao' cap' w', PgQ B w' ao' cap' (ps ++ [ks]) → Below B w w' → w.grownBy w' (Value.slice ao ps.length cap).ownBlock → wpList Try.prog ops Q rest (a.put o.dst (.slice ao' (ps.length + 1) cap')) w') : wpList Try.prog ops Q (o :: rest) a w := by
  obtain ⟨i0, hi, hz0, hz1, hz2⟩ := info_parts info_page
  obtain ⟨vs, hown, hall⟩ := h
  refine wpList_append_apart hgd s x 22 ho B 34 i0 _ 1 24 Try.underlying22 hi hz0 hz1 hz2 rfl (by decide) _ ps.length vs hs hown ⟨g, 0, none⟩ 1 c [.slice la ks.length lc] hx rfl (fun j u hj => by
    match j, hj with
    | 0, hj => simp at hj; subst hj; rw [Addr.add_lit]; exact hg) (by simp [Value.oneCell']) (by unfold maxLen; omega) (by omega) hB (by omega) (fun v' w' h1 h2 h3 => ?_)
  have hB' : Below B w w' := ⟨h2.os, h2.tape, h2.output, h2.size, fun k hk => h2.block k (by omega) (fun e => by have := (hown.lt k e.symm).1; omega)⟩
  obtain ⟨ao', cap', rfl⟩ := own_shape h1
  have hkeep : KpH (fun b => b < w.heap.size ∧ (Value.slice ao ps.length cap).ownBlock ≠ some b) (fun b => (Value.slice ao' (ps ++ [ks]).length cap').ownBlock ≠ some b) w w' := fun b hb hl => by
    have e9 : (Value.slice ao' (ps ++ [ks]).length cap').ownBlock = (Value.slice ao' (ps.length + 1) cap').ownBlock := by cases ao' <;> rfl
    refine ⟨fun e => ?_, h2.block b hl (fun e => hb.2 e.symm)⟩
    rw [e9] at e
    rcases h3 with h3 | h3
    · exact hb.2 (by rw [← h3]; exact e)
    · rw [h3] at e
      injection e with e
      omega
  have hkp2 : Kp (fun b => (Value.slice ao ps.length cap).ownBlock ≠ some b) (fun b => (Value.slice ao' (ps ++ [ks]).length cap').ownBlock ≠ some b) w w' := fun b i u hs hc => (hkeep.kp) b i u ⟨World.block_lt_of_cell? w _ hc, hs⟩ hc
  have hvl := hown.1
  rw [Nat.mul_one] at hvl
  refine hk ao' cap' w' ⟨vs ++ [.slice la ks.length lc], by simpa using h1, fun i ls hi => ?_⟩ hB' h2
  by_cases c : i < ps.length
  · rw [List.getElem?_append_left c] at hi
    obtain ⟨la', lc', k1, k2, k3⟩ := hall i ls hi
    exact ⟨la', lc', by rw [List.getElem?_append_left (by omega)]; exact k1, k2, k3.kp hkp2⟩
  · have hil := (List.getElem?_eq_some_iff.1 hi).1
    simp at hil
    obtain rfl : i = ps.length := by omega
    simp at hi
    subst hi
    exact ⟨la, lc, by rw [List.getElem?_append_right (by omega)]; simp [hvl], hl, hls.kp hkp2⟩
end Go.Proofs.Ytoodhpgaikmalaa
