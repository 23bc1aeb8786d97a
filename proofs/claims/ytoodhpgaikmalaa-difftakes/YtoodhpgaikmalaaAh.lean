/-
  Lines in a row of one's own, and more appended (the law's Patch).
-/
import Derived.Test.YtoodhpgaikmalaaAg
namespace Go.Proofs.Ytoodhpgaikmalaa
open Go.RowKit
set_option linter.unusedSimpArgs false
set_option linter.unusedVariables false

/-- Lines in a row of one's own, from B on; their runs lie ahead of A. -/
def LnQ (A B : Nat) (w : World) (ao : Option Addr) (cap : Nat) (l : List Lne) : Prop := w.ownsRow B 37 9 (.slice ao l.length cap) l.length (lnec l) ∧ ∀ x ∈ l, LnOk x ∧ P2At (fun b => b < A) w x.ra x.rn x.L x.Y
theorem LnQ.keep {A B : Nat} {w w' : World} {ao : Option Addr} {cap : Nat} {l : List Lne} (h : LnQ A B w ao cap l) (hb : Below w.heap.size w w') : LnQ A B w' ao cap l :=
  ⟨owns_below h.1 hb, fun x hx => ⟨(h.2 x hx).1, (h.2 x hx).2.keep (kp_below hb)⟩⟩
theorem LnQ.cap {A B : Nat} {w : World} {ao : Option Addr} {cap : Nat} {l : List Lne} (h : LnQ A B w ao cap l) : Sl ao cap l.length := sl_own h.1
theorem LnQ.at {A B : Nat} {w : World} {ao : Option Addr} {cap : Nat} {l : List Lne} {S : Nat → Prop} (h : LnQ A B w ao cap l) (hS : ∀ b, b < A → S b) (hS2 : ∀ g, ao = some ⟨g, 0, none⟩ → B ≤ g → S g) : LsAt S w ao (l.map key) :=
  (own_ls h.1 hS2 (fun x hx => ⟨(h.2 x hx).1, (h.2 x hx).2.keep (fun b i u hs hc => ⟨hS b hs, hc⟩)⟩)).1
theorem LnQ.step {A B : Nat} {w w' : World} {ao : Option Addr} {cap : Nat} {l l2 : List Lne} (h : LnQ A B w ao cap l) (hgr : w.grownBy w' (Value.slice ao l.length cap).ownBlock) (hAB : A ≤ B) (hB : B ≤ w.heap.size) (h2 : ∀ x ∈ l2, LnOk x ∧ P2At (fun b => b < A) w x.ra x.rn x.L x.Y) (ao' : Option Addr) (cap' : Nat)
    (ho : w'.ownsRow B 37 9 (.slice ao' (l.length + l2.length) cap') (l.length + l2.length) (lnec l ++ lnec l2)) : LnQ A B w' ao' cap' (l ++ l2) ∧ Below B w w' := by
  have hB' : Below B w w' := ⟨hgr.os, hgr.tape, hgr.output, hgr.size, fun k hk => hgr.block k (by omega) (fun e => by have := (h.1.lt k e.symm).1; omega)⟩
  have hk : Kp (fun b => b < A) (fun b => b < A) w w' := fun b i u hs hc => ⟨hs, by rw [cell_same (hB'.block b (Nat.lt_of_lt_of_le hs hAB))]; exact hc⟩
  refine ⟨⟨by rw [lnec_app, List.length_append]; exact ho, fun x hx => ?_⟩, hB'⟩
  rcases List.mem_append.1 hx with hx | hx
  · exact ⟨(h.2 x hx).1, (h.2 x hx).2.keep hk⟩
  · exact ⟨(h2 x hx).1, (h2 x hx).2.keep hk⟩
/-- More lines, appended. -/
theorem wpList_linesQ {w : World} {ops : Array Oper} {rest : List Oper} {o : Oper} {a : Act} {Q : Exit → Act → World → Prop} (hgd : o.guard = none) (s x : Operand)
    (ho : o.op = .call { callee := .builtin .append, args := #[s, x], argTypes := #[32, 32] })
    (A B : Nat) (hAB : A ≤ B) (ao : Option Addr) (cap : Nat) (l : List Lne) (hs : a.eval s = .slice ao l.length cap) (h : LnQ A B w ao cap l) (sa : Option Addr) (sc : Nat) (ks : List Key) (hx : a.eval x = .slice sa ks.length sc)
    (hls : LsAt (fun b => b < A) w sa ks) (hsl : Sl sa sc ks.length) (hbig : l.length + ks.length ≤ 10000) (hB : B ≤ w.heap.size)
    (hk : ∀ ao' cap' l' w', l'.map key = l.map key ++ ks → LnQ A B w' ao' cap' l' → Below B w w' → wpList Try.prog ops Q rest (a.put o.dst (.slice ao' l'.length cap')) w') : wpList Try.prog ops Q (o :: rest) a w := by
  obtain ⟨i0, hi, hz0, hz1, hz2⟩ := info_parts info_line
  cases sa with
  | none =>
    have hks : ks = [] := nil_len hls
    subst hks
    have hsc := hsl.2 rfl
    subst hsc
    refine wpList_append_own_none hgd s x 32 ho B 37 i0 9 Try.underlying32 hi _ _ _ hs h.1 hx ?_
    exact hk ao cap l w (by simp) h ⟨rfl, rfl, rfl, Nat.le_refl _, fun _ _ => rfl⟩
  | some ad =>
    obtain ⟨x2, e2, r2, q2⟩ := hls.row
    have e : ks.length = x2.length := by rw [← e2]; simp
    have HN : ∀ j u, (lnec x2)[j]? = some u → w.cell? (ad.add j) = some u := by
      intro j u hj
      have hl : j < (lnec x2).length := (List.getElem?_eq_some_iff.1 hj).1
      rw [lnec_len] at hl
      obtain ⟨b, off, e9, -⟩ := r2.form (by omega)
      injection e9 with e9
      subst e9
      rw [Addr.add_lit]
      exact r2.cells j u hj
    refine wpList_append_own _ hgd s x 32 ho B 37 i0 _ 9 88 Try.underlying32 hi hz0 hz1 hz2 rfl (by decide) _ _ _ hs h.1 ad ks.length sc (lnec x2) hx (by rw [lnec_len, e]) HN (lnec_ones _) (by unfold maxLen; omega) (by omega) hB ?_
    intro v' w' hown' hgr _
    rw [e] at hown'
    obtain ⟨ao', cap', rfl⟩ := own_shape hown'
    obtain ⟨hq, hb⟩ := h.step hgr hAB hB q2 ao' cap' hown'
    have := hk ao' cap' (l ++ x2) w' (by rw [List.map_append, e2]) hq hb
    rw [List.length_append] at this
    exact this
/-- The same, as one step of a region that draws. -/
theorem step_linesQ {w : World} {ops : Array Oper} {o : Oper} {a : Act} {K : Act → World → Prop} {Q : Exit → Act → World → Prop} {E : Prop} (hgd : o.guard = none) (s x : Operand)
    (ho : o.op = .call { callee := .builtin .append, args := #[s, x], argTypes := #[32, 32] })
    (A B : Nat) (hAB : A ≤ B) (ao : Option Addr) (cap : Nat) (l : List Lne) (hs : a.eval s = .slice ao l.length cap) (h : LnQ A B w ao cap l) (sa : Option Addr) (sc : Nat) (ks : List Key) (hx : a.eval x = .slice sa ks.length sc)
    (hls : LsAt (fun b => b < A) w sa ks) (hsl : Sl sa sc ks.length) (hbig : l.length + ks.length ≤ 10000) (hB : B ≤ w.heap.size)
    (hk : ∀ ao' cap' l' w', l'.map key = l.map key ++ ks → LnQ A B w' ao' cap' l' → Below B w w' → K (a.put o.dst (.slice ao' l'.length cap')) w') : if Region.wanted o (yielded ops a.tmps) = true then Oper.wp Try.prog o a w K Q else E := by
  obtain ⟨i0, hi, hz0, hz1, hz2⟩ := info_parts info_line
  cases sa with
  | none =>
    have hks : ks = [] := nil_len hls
    subst hks
    have hsc := hsl.2 rfl
    subst hsc
    have hw : Region.wanted o (yielded ops a.tmps) = true := by simp [Region.wanted, hgd]
    rw [if_pos hw]
    have hrun := run_append_owned_none (P := Try.prog) (w := w) B 32 o.type 37 i0 9 Try.underlying32 hi _ _ _ h.1
    have hx' : a.eval x = .slice none 0 0 := hx
    unfold Oper.wp
    simp [execOp, ho, resolve, invoke, builtin, hs, hx', hrun, Result.andThen]
    exact hk ao cap l w (by simp) h ⟨rfl, rfl, rfl, Nat.le_refl _, fun _ _ => rfl⟩
  | some ad =>
    obtain ⟨x2, e2, r2, q2⟩ := hls.row
    have e : ks.length = x2.length := by rw [← e2]; simp
    have HN : ∀ j u, (lnec x2)[j]? = some u → w.cell? (ad.add j) = some u := by
      intro j u hj
      have hl : j < (lnec x2).length := (List.getElem?_eq_some_iff.1 hj).1
      rw [lnec_len] at hl
      obtain ⟨b, off, e9, -⟩ := r2.form (by omega)
      injection e9 with e9
      subst e9
      rw [Addr.add_lit]
      exact r2.cells j u hj
    refine step_append_own hgd s x 32 ho B 37 i0 _ 9 88 Try.underlying32 hi hz0 hz1 hz2 rfl (by decide) _ _ _ hs h.1 ad ks.length sc (lnec x2) hx (by rw [lnec_len, e]) HN (lnec_ones _) (by unfold maxLen; omega) (by omega) hB ?_
    intro v' w' hown' hgr
    rw [e] at hown'
    obtain ⟨ao', cap', rfl⟩ := own_shape hown'
    obtain ⟨hq, hb⟩ := h.step hgr hAB hB q2 ao' cap' hown'
    have := hk ao' cap' (l ++ x2) w' (by rw [List.map_append, e2]) hq hb
    rw [List.length_append] at this
    exact this
/-- A row of nothing: the beginning. -/
theorem LnQ.zero (A B : Nat) (w : World) (ao : Option Addr) (cap : Nat) (h : w.ownsRow B 37 9 (.slice ao 0 cap) 0 []) : LnQ A B w ao cap [] := ⟨h, fun x hx => by cases hx⟩
end Go.Proofs.Ytoodhpgaikmalaa
