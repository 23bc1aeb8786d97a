/-
  Pages in memory of one's own: one put in place of another, one more appended; what regions make of pages.
-/
import Derived.Test.YtoodhpgaikmalaaBw
import Derived.Test.YtoodhpgaikmalaaBi
namespace Go.Proofs.Ytoodhpgaikmalaa
open Go.RowKit
set_option linter.unusedSimpArgs false
set_option linter.unusedVariables false

theorem PgO.form {B : Nat} {w : World} {ao : Option Addr} {cap : Nat} {ps : List (List Key)} (h : PgO B w ao cap ps) (hn : 0 < ps.length) : ∃ g, ao = some ⟨g, 0, none⟩ ∧ B ≤ g ∧ g < w.heap.size := by
  obtain ⟨vs, ho, -⟩ := h
  obtain ⟨g, cp, e⟩ := ownsRow_form ho hn
  injection e with e1 e2 e3
  subst e1
  exact ⟨g, rfl, ho.lt g rfl⟩
/-- A page of them. -/
theorem PgO.get {B : Nat} {w : World} {g : Nat} {cap : Nat} {ps : List (List Key)} (h : PgO B w (some ⟨g, 0, none⟩) cap ps) (i : Nat) (ks : List Key) (hi : ps[i]? = some ks) : w.frozen? ⟨g, i, none⟩ = false ∧ ∃ la lc, w.cell? ⟨g, i, none⟩ = some (.slice la ks.length lc) ∧ Sl la lc ks.length ∧ LO (fun b => B ≤ b ∧ b ≠ g) w la ks := by
  obtain ⟨vs, ho, h⟩ := h
  obtain ⟨la, lc, h1, h2, h3⟩ := h i ks hi
  refine ⟨ho.frozenAt i, la, lc, ?_, h2, h3.keep (kph_weak (fun b hb => ⟨hb.1, fun e => hb.2 (by simp [Value.ownBlock, e])⟩))⟩
  rw [ho.cellAt i (by have := (List.getElem?_eq_some_iff.1 hi).1; omega)]; exact h1
theorem PgO.set {B : Nat} {w w5 : World} {g : Nat} {cap : Nat} {ps : List (List Key)} (h : PgO B w (some ⟨g, 0, none⟩) cap ps) (hb : Below w.heap.size w w5) (p : Nat) (hp : p < ps.length) (ks : List Key) (la : Option Addr) (lc : Nat) (hs : Sl la lc ks.length) (hl : LO (fun b => B ≤ b ∧ b ≠ g) w5 la ks) : PgO B (w5.setCell ⟨g, p, none⟩ (.slice la ks.length lc)) (some ⟨g, 0, none⟩) cap (ps.set p ks) := by
  obtain ⟨vs, ho, h⟩ := h
  have ho5 := owns_below ho hb
  have hst := (ho5.stored p (.slice la ks.length lc)).1
  have hg := grown_set w5 g p (.slice la ks.length lc)
  have hvl := ho.1
  rw [Nat.mul_one] at hvl
  have hkp : KpH (fun b => B ≤ b ∧ b ≠ g) (fun b => B ≤ b ∧ (Value.slice (some ⟨g, 0, none⟩) ps.length cap).ownBlock ≠ some b) w5 (w5.setCell ⟨g, p, none⟩ (.slice la ks.length lc)) := fun b hb hl => ⟨⟨hb.1, fun e => by simp [Value.ownBlock] at e; exact hb.2 e.symm⟩, hg.block b hl (by simp; exact hb.2)⟩
  refine ⟨vs.set p (.slice la ks.length lc), by simpa using hst, fun i ls hi => ?_⟩
  rw [List.length_set]
  by_cases c : i = p
  · subst c
    rw [List.getElem?_set_self hp] at hi
    injection hi with hi
    subst hi
    exact ⟨la, lc, by rw [List.getElem?_set_self (by omega)], hs, hl.keep hkp⟩
  · rw [List.getElem?_set_ne (by omega)] at hi
    obtain ⟨la', lc', k1, k2, k3⟩ := h i ls hi
    refine ⟨la', lc', by rw [List.getElem?_set_ne (by omega)]; exact k1, k2, ?_⟩
    exact (k3.below hb).keep (fun b hb hl => hkp b ⟨hb.1, fun e => hb.2 (by simp [Value.ownBlock, e])⟩ hl)
/-- One more page, appended. -/
theorem wpList_push {w : World} {ops : Array Oper} {rest : List Oper} {o : Oper} {a : Act} {Q : Exit → Act → World → Prop} (hgd : o.guard = none) (s x : Operand)
    (ho : o.op = .call { callee := .builtin .append, args := #[s, x], argTypes := #[22, 22] })
    (B : Nat) (ao : Option Addr) (cap : Nat) (ps : List (List Key)) (hs : a.eval s = .slice ao ps.length cap) (h : PgO B w ao cap ps) (g c : Nat) (hx : a.eval x = .slice (some ⟨g, 0, none⟩) 1 c) (ks : List Key) (la : Option Addr) (lc : Nat)
    (hg : w.cell? ⟨g, 0, none⟩ = some (.slice la ks.length lc)) (hl : Sl la lc ks.length) (hls : LO (fun b => B ≤ b ∧ (Value.slice ao ps.length cap).ownBlock ≠ some b) w la ks) (hbig : ps.length ≤ 1000) (hB : B ≤ w.heap.size)
    (hk : ∀ ao' cap' w', PgO B w' ao' cap' (ps ++ [ks]) → Below B w w' → wpList Try.prog ops Q rest (a.put o.dst (.slice ao' (ps.length + 1) cap')) w') : wpList Try.prog ops Q (o :: rest) a w := by
  obtain ⟨i0, hi, hz0, hz1, hz2⟩ := info_parts info_page
  obtain ⟨vs, hown, hall⟩ := h
  refine wpList_append_apart hgd s x 22 ho B 34 i0 _ 1 24 Try.underlying22 hi hz0 hz1 hz2 rfl (by decide) _ ps.length vs hs hown ⟨g, 0, none⟩ 1 c [.slice la ks.length lc] hx rfl (fun j u hj => by
    match j, hj with
    | 0, hj => simp at hj; subst hj; rw [Addr.add_lit]; exact hg) (by simp [Value.oneCell']) (by unfold maxLen; omega) (by omega) hB (by omega) (fun v' w' h1 h2 h3 => ?_)
  have hB' : Below B w w' := ⟨h2.os, h2.tape, h2.output, h2.size, fun k hk => h2.block k (by omega) (fun e => by have := (hown.lt k e.symm).1; omega)⟩
  obtain ⟨ao', cap', rfl⟩ := own_shape h1
  have hkeep : KpH (fun b => B ≤ b ∧ (Value.slice ao ps.length cap).ownBlock ≠ some b) (fun b => B ≤ b ∧ (Value.slice ao' (ps ++ [ks]).length cap').ownBlock ≠ some b) w w' := fun b hb hl => by
    have e9 : (Value.slice ao' (ps ++ [ks]).length cap').ownBlock = (Value.slice ao' (ps.length + 1) cap').ownBlock := by cases ao' <;> rfl
    refine ⟨⟨hb.1, fun e => ?_⟩, h2.block b hl (fun e => hb.2 e.symm)⟩
    rw [e9] at e
    rcases h3 with h3 | h3
    · exact hb.2 (by rw [← h3]; exact e)
    · rw [h3] at e
      injection e with e
      omega
  have hvl := hown.1
  rw [Nat.mul_one] at hvl
  refine hk ao' cap' w' ⟨vs ++ [.slice la ks.length lc], by simpa using h1, fun i ls hi => ?_⟩ hB'
  by_cases c : i < ps.length
  · rw [List.getElem?_append_left c] at hi
    obtain ⟨la', lc', k1, k2, k3⟩ := hall i ls hi
    exact ⟨la', lc', by rw [List.getElem?_append_left (by omega)]; exact k1, k2, k3.keep hkeep⟩
  · have hil := (List.getElem?_eq_some_iff.1 hi).1
    simp at hil
    obtain rfl : i = ps.length := by omega
    simp at hi
    subst hi
    exact ⟨la, lc, by rw [List.getElem?_append_right (by omega)]; simp [hvl], hl, hls.keep hkeep⟩
theorem app1_len (qs : List (List Key)) (r : Rg) : (app1 qs r).length ≤ qs.length + 1 := by
  unfold app1
  split
  · simp
  · split <;> simp
theorem app1_small (qs : List (List Key)) (r : Rg) (M L : Nat) (h : ∀ (i : Nat) (ks : List Key), qs[i]? = some ks → ks.length ≤ M) (hr : r.ls.length ≤ L) : ∀ (i : Nat) (ks : List Key), (app1 qs r)[i]? = some ks → ks.length ≤ M + L := by
  intro i ks hi
  unfold app1 at hi
  split at hi
  · by_cases c : i = r.pg.toNat
    · subst c
      by_cases d : r.pg.toNat < qs.length
      · rw [List.getElem?_set_self d] at hi
        injection hi with hi
        subst hi
        have h1 := h _ _ (List.getElem?_eq_getElem d)
        rw [List.getD_eq_getElem?_getD, List.getElem?_eq_getElem d, Option.getD_some]
        simp only [List.length_append, List.length_take, List.length_drop]
        omega
      · rw [List.getElem?_eq_none (by simp; omega)] at hi; cases hi
    · rw [List.getElem?_set_ne (by omega)] at hi
      have := h i ks hi
      omega
  · split at hi
    · by_cases c : i < qs.length
      · rw [List.getElem?_append_left c] at hi
        have := h i ks hi
        omega
      · have hil := (List.getElem?_eq_some_iff.1 hi).1
        simp at hil
        obtain rfl : i = qs.length := by omega
        simp at hi
        subst hi
        omega
    · have := h i ks hi
      omega
theorem appl_take (qs : List (List Key)) (rs : List Rg) (k : Nat) (r : Rg) (h : rs[k]? = some r) : appl qs (rs.take (k + 1)) = app1 (appl qs (rs.take k)) r := by
  rw [take_one _ _ _ h, appl_app]
  rfl
end Go.Proofs.Ytoodhpgaikmalaa
