/-
  A struct that a call gives back, lines put one behind the other, and parts of lines: means for the document's Replace.
-/
import Derived.Test.YtdpjaafdpgkclaaTs
namespace Go.Proofs.Ytdpjaafdpgkclaa
open Go.RowKit
set_option linter.unusedSimpArgs false
set_option linter.unusedVariables false

theorem cells9 {W : World} {rb : Nat} {v0 v1 v2 v3 v4 v5 v6 v7 v8 : Value} {t : TypeId} (e : W.heap[rb]? = some (.cells #[v0, v1, v2, v3, v4, v5, v6, v7, v8] t (0, 0))) : (W.cell? ⟨rb, 0, none⟩ = some v0 ∧ W.cell? ⟨rb, 1, none⟩ = some v1 ∧ W.cell? ⟨rb, 2, none⟩ = some v2 ∧ W.cell? ⟨rb, 3, none⟩ = some v3 ∧ W.cell? ⟨rb, 4, none⟩ = some v4 ∧ W.cell? ⟨rb, 5, none⟩ = some v5 ∧ W.cell? ⟨rb, 6, none⟩ = some v6 ∧ W.cell? ⟨rb, 7, none⟩ = some v7 ∧ W.cell? ⟨rb, 8, none⟩ = some v8) ∧ W.frozen? ⟨rb, 0, none⟩ = false ∧ W.frozen? ⟨rb, 1, none⟩ = false ∧ W.frozen? ⟨rb, 2, none⟩ = false ∧ W.frozen? ⟨rb, 3, none⟩ = false ∧ W.frozen? ⟨rb, 4, none⟩ = false ∧ W.frozen? ⟨rb, 5, none⟩ = false ∧ W.frozen? ⟨rb, 6, none⟩ = false ∧ W.frozen? ⟨rb, 7, none⟩ = false ∧ W.frozen? ⟨rb, 8, none⟩ = false := by
  refine ⟨⟨?_, ?_, ?_, ?_, ?_, ?_, ?_, ?_, ?_⟩, ?_, ?_, ?_, ?_, ?_, ?_, ?_, ?_, ?_⟩
  · simp [World.cell?, e]
  · simp [World.cell?, e]
  · simp [World.cell?, e]
  · simp [World.cell?, e]
  · simp [World.cell?, e]
  · simp [World.cell?, e]
  · simp [World.cell?, e]
  · simp [World.cell?, e]
  · simp [World.cell?, e]
  · unfold World.frozen?; rw [e]; simp
  · unfold World.frozen?; rw [e]; simp
  · unfold World.frozen?; rw [e]; simp
  · unfold World.frozen?; rw [e]; simp
  · unfold World.frozen?; rw [e]; simp
  · unfold World.frozen?; rw [e]; simp
  · unfold World.frozen?; rw [e]; simp
  · unfold World.frozen?; rw [e]; simp
  · unfold World.frozen?; rw [e]; simp
/-- The cells of runs. -/
def put9 (w : World) (rb : Nat) (v0 v1 v2 v3 v4 v5 v6 v7 v8 : Value) : World := (((((((((w.setCell ⟨rb, 0, none⟩ v0).setCell ⟨rb, 1, none⟩ v1).setCell ⟨rb, 2, none⟩ v2).setCell ⟨rb, 3, none⟩ v3).setCell ⟨rb, 4, none⟩ v4).setCell ⟨rb, 5, none⟩ v5).setCell ⟨rb, 6, none⟩ v6).setCell ⟨rb, 7, none⟩ v7).setCell ⟨rb, 8, none⟩ v8)
theorem put9_heap {w : World} {rb : Nat} {x0 x1 x2 x3 x4 x5 x6 x7 x8 : Value} {t : TypeId} (h : w.heap[rb]? = some (.cells #[x0, x1, x2, x3, x4, x5, x6, x7, x8] t (0, 0))) (v0 v1 v2 v3 v4 v5 v6 v7 v8 : Value) : (put9 w rb v0 v1 v2 v3 v4 v5 v6 v7 v8).heap[rb]? = some (.cells #[v0, v1, v2, v3, v4, v5, v6, v7, v8] t (0, 0)) := by
  simp [put9, World.setCell, Array.getElem?_modify, h]
theorem put9_grown (w : World) (rb : Nat) (v0 v1 v2 v3 v4 v5 v6 v7 v8 : Value) : w.grownBy (put9 w rb v0 v1 v2 v3 v4 v5 v6 v7 v8) (some rb) := by
  unfold put9
  exact grown_trans (grown_trans (grown_trans (grown_trans (grown_trans (grown_trans (grown_trans (grown_trans (grown_set _ _ _ _) (grown_set _ _ _ _)) (grown_set _ _ _ _)) (grown_set _ _ _ _)) (grown_set _ _ _ _)) (grown_set _ _ _ _)) (grown_set _ _ _ _)) (grown_set _ _ _ _)) (grown_set _ _ _ _)
theorem results_row_tmp_tmp {P : Program} {fn : Func} {a p u : Tmp} {ty : TypeId} (h : fn.results = #[.cell p ty, .tmp a, .tmp u]) (tmps : Array Value) (w : World) (g : Nat) (t : TypeId) (cs : Array Value) (fr : Nat × Nat) (d : TypeDesc)
    (hp : tmps.getD p undef = .pointer (some ⟨g, 0, none⟩)) (hg : w.heap[g]? = some (.cells cs t fr))
    (hu : P.underlying ty = some d) (hd : (match d with | .struct _ | .array _ _ => true | _ => false) = true) (hi : (P.info? ty).map (·.size) = some cs.size) :
    (results fn tmps).run P w = .ok (.tuple #[.agg cs, tmps.getD a undef, tmps.getD u undef]) w := by
  simp only [results, h]
  simp [Sem.run_bind, Result.andThen]
  rw [show tmps[p]?.getD undef = .pointer (some ⟨g, 0, none⟩) by simpa using hp]
  simp [asAddr, run_loadVar_row w g t ty cs fr d hg hu hd hi]
theorem results_tmp_row_tmp {P : Program} {fn : Func} {a p u : Tmp} {ty : TypeId} (h : fn.results = #[.tmp a, .cell p ty, .tmp u]) (tmps : Array Value) (w : World) (g : Nat) (t : TypeId) (cs : Array Value) (fr : Nat × Nat) (d : TypeDesc)
    (hp : tmps.getD p undef = .pointer (some ⟨g, 0, none⟩)) (hg : w.heap[g]? = some (.cells cs t fr))
    (hu : P.underlying ty = some d) (hd : (match d with | .struct _ | .array _ _ => true | _ => false) = true) (hi : (P.info? ty).map (·.size) = some cs.size) :
    (results fn tmps).run P w = .ok (.tuple #[tmps.getD a undef, .agg cs, tmps.getD u undef]) w := by
  simp only [results, h]
  simp [Sem.run_bind, Result.andThen]
  rw [show tmps[p]?.getD undef = .pointer (some ⟨g, 0, none⟩) by simpa using hp]
  simp [asAddr, run_loadVar_row w g t ty cs fr d hg hu hd hi]
theorem results_row_tmp {P : Program} {fn : Func} {a p : Tmp} {ty : TypeId} (h : fn.results = #[.cell p ty, .tmp a]) (tmps : Array Value) (w : World) (g : Nat) (t : TypeId) (cs : Array Value) (fr : Nat × Nat) (d : TypeDesc)
    (hp : tmps.getD p undef = .pointer (some ⟨g, 0, none⟩)) (hg : w.heap[g]? = some (.cells cs t fr))
    (hu : P.underlying ty = some d) (hd : (match d with | .struct _ | .array _ _ => true | _ => false) = true) (hi : (P.info? ty).map (·.size) = some cs.size) :
    (results fn tmps).run P w = .ok (.tuple #[.agg cs, tmps.getD a undef]) w := by
  simp only [results, h]
  simp [Sem.run_bind, Result.andThen]
  rw [show tmps[p]?.getD undef = .pointer (some ⟨g, 0, none⟩) by simpa using hp]
  simp [asAddr, run_loadVar_row w g t ty cs fr d hg hu hd hi]
section
variable {w : World} {ops : Array Oper} {rest : List Oper} {o : Oper} {a : Act} {Q : Exit → Act → World → Prop}
/-- append of lines to a row of its own. -/
theorem wpList_appW (hgd : o.guard = none) (s x : Operand) (ho : o.op = .call { callee := .builtin .append, args := #[s, x], argTypes := #[22, 22] })
    (B : Nat) (v : Value) (n : Nat) (F : Nat → Slt) (hs : a.eval s = v) (hown : w.ownsRow B 69 4 v n (scs F n)) (xo : Option Addr) (m c : Nat) (hx : a.eval x = .slice xo m c) (G : Nat → Slt) (S : Nat → Prop) (hG : SltsAt S w xo m G) (hnone : xo = none → c = 0) (hbig : n + m ≤ 100000) (hB : B ≤ w.heap.size)
    (h : ∀ ao' c' w', Box (w'.ownsRow B 69 4 (.slice ao' (n + m) c') (n + m) (scs (put F n 0 m G) (n + m))) → Box (w.grownBy w' v.ownBlock) → wpList Try.prog ops Q rest (a.put o.dst (.slice ao' (n + m) c')) w') : wpList Try.prog ops Q (o :: rest) a w := by
  obtain ⟨i0, hi, hz0, hz1, hz2⟩ := info_parts info_slot
  have hput : scs (put F n 0 m G) (n + m) = scs F n ++ scs G m := by
    have := scs_put F G n n 0 m (Nat.le_refl _)
    rw [show n - 0 + m = n + m by omega] at this
    rw [this]
    simp [scs]
  have hl := scs_len G m
  cases xo with
  | none =>
    obtain rfl := hnone rfl
    have hm0 : m = 0 := by
      by_cases c : 0 < m
      · obtain ⟨b, off, e, -⟩ := hG.form c
        cases e
      · omega
    subst hm0
    obtain ⟨ao, c, rfl⟩ := own_shape hown
    refine wpList_append_own_none hgd s x 22 ho B 69 i0 4 Try.underlying22 hi _ n _ hs hown hx ?_
    have := h ao c w (boxed (by rw [hput]; simpa [scs] using hown)) (boxed (grown_refl _ _))
    simpa using this
  | some ad =>
    refine wpList_append_own w hgd s x 22 ho B 69 i0 _ 4 32 Try.underlying22 hi hz0 hz1 hz2 rfl (by decide) v n (scs F n) hs hown ad m c (scs G m) hx hl (fun j u hj => by
      have hj2 : j < (scs G m).length := (List.getElem?_eq_some_iff.1 hj).1
      obtain ⟨b, off, e, -, hc⟩ := hG.cell (by omega)
      injection e with e
      subst e
      rw [add_lit]
      exact hc j u hj) (scs_one _ _) (by unfold maxLen; omega) (by omega) hB ?_
    intro v' w' h1 h2 _
    rw [← hput] at h1
    obtain ⟨ao, c, rfl⟩ := own_shape h1
    exact h ao c w' (boxed h1) (boxed h2)
end
theorem part_lo (S : Nat → Prop) (w0 : World) (ao : Option Addr) (n c q : Nat) (F : Nat → Slt) (h : SltsAt S w0 ao n F) (hc : n ≤ c) (hq : q ≤ n) (z : Int) (hz : z = (q : Int)) (hno : ao = none → c = 0) : ∃ ao', (∀ w, (Instr.slice 22 (.slice ao n c) (some (.int .i64 z)) none none).run Try.prog w = .ok (.slice ao' (n - q) (c - q)) w) ∧ (ao' = none → c - q = 0) ∧ ∀ W, SltsAt S W ao n F → SltsAt S W ao' (n - q) (fun k => F (q + k)) := by
  subst hz
  by_cases h0 : n = 0
  · subst h0
    obtain rfl : q = 0 := by omega
    cases ao with
    | none =>
      obtain rfl := hno rfl
      exact ⟨none, fun w => by go_simp, fun _ => rfl, fun W hW i hi => absurd hi (Nat.not_lt_zero _)⟩
    | some ad =>
      refine ⟨some (if c = 0 then ad else ad.add 0), fun w => ?_, (fun e => nomatch e), fun W hW i hi => absurd hi (Nat.not_lt_zero _)⟩
      simp [Instr.slice, Instr.sliceBounds, Instr.sliceBound, asIntOf, run_underlying Try.underlying22, go_sem]
  · obtain ⟨b, off, rfl, -, -⟩ := h.form (by omega)
    refine ⟨some ⟨b, sa off q c, none⟩, slF b off n c q (q : Int) rfl hc hq, (fun e => nomatch e), fun W hW => ?_⟩
    by_cases e : q = n
    · subst e
      intro i hi
      omega
    · rw [sa_of (by omega)]
      exact hW.part q (n - q) (by omega)
theorem part_hi (ao : Option Addr) (n c q : Nat) (hq : q ≤ c) (z : Int) (hz : z = (q : Int)) (w : World) : (Instr.slice 22 (.slice ao n c) none (some (.int .i64 z)) none).run Try.prog w = .ok (.slice ao q c) w := by
  subst hz
  have h4 : (q : Int) ≤ (c : Int) := by omega
  cases ao <;> go_simp
theorem SltsAt.less {S : Nat → Prop} {w : World} {ao : Option Addr} {n m : Nat} {F : Nat → Slt} (h : SltsAt S w ao n F) (hm : m ≤ n) : SltsAt S w ao m F := fun i hi => h i (by omega)
end Go.Proofs.Ytdpjaafdpgkclaa
