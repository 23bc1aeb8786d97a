/-
  Pages appended to a row of one's own that is empty (the law's Patch).
-/
import Derived.Test.YtoodhpgaikmalaaAi
namespace Go.Proofs.Ytoodhpgaikmalaa
open Go.RowKit
set_option linter.unusedSimpArgs false
set_option linter.unusedVariables false

theorem psat_lt {S : Nat → Prop} {w : World} {ao : Option Addr} {ps : List (List Key)} (h : PsAt S w ao ps) : PsAt (fun b => b < w.heap.size) w ao ps := h.kp (fun b i u _ hc => ⟨World.block_lt_of_cell? w _ hc, hc⟩)
theorem rgat_lt {S : Nat → Prop} {w : World} {ao : Option Addr} {rs : List Rg} (h : RgAt S w ao rs) : RgAt (fun b => b < w.heap.size) w ao rs := h.kp (fun b i u _ hc => ⟨World.block_lt_of_cell? w _ hc, hc⟩)
/-- The pages, appended to nothing. -/
theorem wpList_pagesQ {w : World} {ops : Array Oper} {rest : List Oper} {o : Oper} {a : Act} {Q : Exit → Act → World → Prop} (hgd : o.guard = none) (s x : Operand)
    (ho : o.op = .call { callee := .builtin .append, args := #[s, x], argTypes := #[22, 22] })
    (B : Nat) (g : Option Addr) (cap : Nat) (hs : a.eval s = .slice g 0 cap) (h : w.ownsRow B 34 1 (.slice g 0 cap) 0 []) (sa : Option Addr) (sc : Nat) (ps : List (List Key)) (hx : a.eval x = .slice sa ps.length sc)
    (hps : PsAt (fun b => b < B) w sa ps) (hsl : Sl sa sc ps.length) (hbig : ps.length ≤ 1000) (hB : B ≤ w.heap.size)
    (hk : ∀ ao' cap' w', PgQ B w' ao' cap' ps → Below B w w' → wpList Try.prog ops Q rest (a.put o.dst (.slice ao' ps.length cap')) w') : wpList Try.prog ops Q (o :: rest) a w := by
  obtain ⟨i0, hi, hz0, hz1, hz2⟩ := info_parts info_page
  cases sa with
  | none =>
    have h0 : ps = [] := by
      by_cases c : 0 < ps.length
      · obtain ⟨b, off, e, -⟩ := hps.form c
        cases e
      · exact List.eq_nil_of_length_eq_zero (by omega)
    subst h0
    have hsc := hsl.2 rfl
    subst hsc
    refine wpList_append_own_none hgd s x 22 ho B 34 i0 1 Try.underlying22 hi _ _ _ hs h hx ?_
    exact hk g cap w ⟨[], h, fun i ks hi => by simp at hi⟩ ⟨rfl, rfl, rfl, Nat.le_refl _, fun _ _ => rfl⟩
  | some ad =>
    have hvl : ∀ i ks, ps[i]? = some ks → ∃ la lc, ((List.range ps.length).map (fun i => (w.cell? (ad.add i)).getD (.bool false)))[i]? = some (Value.slice la ks.length lc) ∧ w.cell? (ad.add i) = some (.slice la ks.length lc) ∧ Sl la lc ks.length ∧ LsAt (fun b => b < B) w la ks := by
      intro i ks hi
      have hl := (List.getElem?_eq_some_iff.1 hi).1
      obtain ⟨b, off, la, lc, e, -, hc, h2, h3⟩ := hps i ks hi
      injection e with e
      subst e
      refine ⟨la, lc, ?_, by rw [Addr.add_lit]; exact hc, h2, h3⟩
      rw [List.getElem?_map, List.getElem?_range hl]
      simp only [Option.map_some, Addr.add_lit, hc, Option.getD_some]
    obtain ⟨vs, hvs⟩ : ∃ vs, (List.range ps.length).map (fun i => (w.cell? (ad.add i)).getD (.bool false)) = vs := ⟨_, rfl⟩
    have hlen : vs.length = ps.length := by rw [← hvs]; simp
    rw [hvs] at hvl
    have hget : ∀ j u, vs[j]? = some u → ∃ ks, ps[j]? = some ks := fun j u hj => by
      have hl := (List.getElem?_eq_some_iff.1 hj).1
      exact ⟨_, List.getElem?_eq_getElem (by omega)⟩
    refine wpList_append_own _ hgd s x 22 ho B 34 i0 _ 1 24 Try.underlying22 hi hz0 hz1 hz2 rfl (by decide) _ _ _ hs h ad ps.length sc vs hx (by omega) (fun j u hj => ?_) (fun u hu => ?_) (by unfold maxLen; omega) (by omega) hB ?_
    · obtain ⟨ks, hks⟩ := hget j u hj
      obtain ⟨la, lc, k1, k2, -⟩ := hvl j ks hks
      rw [hj] at k1
      injection k1 with k1
      rw [k1]; exact k2
    · obtain ⟨j, hj⟩ := List.getElem?_of_mem hu
      obtain ⟨ks, hks⟩ := hget j u hj
      obtain ⟨la, lc, k1, -⟩ := hvl j ks hks
      rw [hj] at k1
      injection k1 with k1
      rw [k1]; rfl
    · intro v' w' hown' hgr _
      rw [Nat.zero_add, List.nil_append] at hown'
      obtain ⟨ao', cap', rfl⟩ := own_shape hown'
      have hB' : Below B w w' := ⟨hgr.os, hgr.tape, hgr.output, hgr.size, fun k hk => hgr.block k (by omega) (fun e => by have := (h.lt k e.symm).1; omega)⟩
      refine hk ao' cap' w' ⟨vs, hown', fun i ks hi => ?_⟩ hB'
      obtain ⟨la, lc, k1, -, k3, k4⟩ := hvl i ks hi
      exact ⟨la, lc, k1, k3, k4.kp (fun b j u hs hc => ⟨fun e => by have := (hown'.lt b e).1; omega, by rw [cell_same (hB'.block b hs)]; exact hc⟩)⟩
end Go.Proofs.Ytoodhpgaikmalaa
