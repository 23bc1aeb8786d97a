/-
  What the document's Points answers. (Written by mkhyw.py.)
-/
import Derived.Test.YtflhefgmgdgffabHyv
import Derived.Laws.AppendOwnNone
namespace Go.Proofs.Ytflhefgmgdgffab
open Go.RowKit Go.Maps
set_option linter.unusedSimpArgs false
set_option linter.unusedVariables false

theorem one_cell (k : IntKind) (x : Int) : ∀ u ∈ ([.int k x] : List Value), u.oneCell' = true := by intro u hu; simp at hu; subst hu; rfl
theorem vals_one (L : List Nat) : ∀ u ∈ vals L, u.oneCell' = true := by
  intro u hu
  simp only [vals, List.mem_map] at hu
  obtain ⟨d, _, rfl⟩ := hu
  rfl
theorem int_lohi (b n cap x y : Nat) (hx : x < n) (hy : x ≤ y) (hn : y ≤ n) (hc : n ≤ cap) (w : World) : (Instr.slice 30 (.slice (some ⟨b, 0, none⟩) n cap) (some (.int .i64 (x : Int))) (some (.int .i64 (y : Int))) none).run Try.prog w = .ok (.slice (some ⟨b, x, none⟩) (y - x) (cap - x)) w := by
  have h4 : (x : Int) ≤ (y : Int) := by omega
  have h5 : (y : Int) ≤ (cap : Int) := by omega
  go_simp
  intro h; omega
theorem Dg.chg {g : Nat} {w w' : World} {ao : Option Addr} {cap : Nat} {l : List Nat} (h : Dg w ao cap l) (hc : Chg (fun b => b = g) w w') (hn : ∀ b o, ao = some ⟨b, o, none⟩ → b ≠ g) : Dg w' ao cap l := by
  obtain ⟨h1, h2⟩ := h
  refine ⟨h1, ?_⟩
  rcases h2 with h2 | ⟨b, off, e, hb, hl⟩
  · exact .inl h2
  · refine .inr ⟨b, off, e, Nat.lt_of_lt_of_le hb hc.size, fun i hi => ?_⟩
    rw [World.cell?_of_block (a := ⟨b, off + i, none⟩) (hc.block b hb (hn b off e))]
    exact hl i hi
theorem chg_keep {g pb : Nat} {w w' : World} {o : Obj} (hc : Chg (fun b => b = g) w w') (h : w.heap[pb]? = some o) (hn : pb ≠ g) : w'.heap[pb]? = some o := (hc.block pb (heap_lt h) hn).trans h
theorem chg_below {D : Nat → Prop} {w w' : World} (h : Below w.heap.size w w') : Chg D w w' := ⟨h.os, h.tape, h.output, h.size, fun k hk _ => h.block k hk⟩
theorem rise_len {A : List Nat} {n : Nat} (h : A.Pairwise (· < ·)) (ha : ∀ a ∈ A, a < n) : A.length ≤ n := by
  have := rise_filter A h n ha
  have h2 := List.length_filter_le (fun i => decide (i ∈ A)) (List.range n)
  rw [this, List.length_range] at h2
  exact h2
theorem dg_cut {w : World} {B g cap n at' k : Nat} {l : List Nat} (h : w.ownsRow B 3 1 (.slice (some ⟨g, 0, none⟩) n cap) n (vals l)) (hk : at' + k ≤ n) : Dg w (some ⟨g, at', none⟩) (cap - at') ((l.drop at').take k) ∧ ((l.drop at').take k).length = k := by
  obtain ⟨e, ao, c, e1, ⟨h1, h2⟩, h3⟩ := dg_of_owns h
  injection e1 with e1 e2 e3
  subst e1; subst e3
  have hl : ((l.drop at').take k).length = k := by rw [List.length_take, List.length_drop]; omega
  refine ⟨⟨⟨by rw [hl]; omega, by omega⟩, ?_⟩, hl⟩
  rcases h3 with h3 | ⟨b, off, e4, hb, hc⟩
  · left; rw [h3]; simp
  · right
    injection e4 with e4
    injection e4 with e4 e5
    subst e4; subst e5
    refine ⟨g, at', rfl, hb, fun i hi => ?_⟩
    rw [hl] at hi
    have := hc (at' + i) (by omega)
    rw [Nat.zero_add] at this
    rw [this]
    simp [List.getD_eq_getElem?_getD, List.getElem?_take, hi, List.getElem?_drop]
theorem wpList_append_row {P : Program} {w : World} {ops : Array Oper} {rest : List Oper} {o : Oper} {a : Act} {Q : Exit → Act → World → Prop} (hgd : o.guard = none) (s x : Operand) (t : TypeId)
    (ho : o.op = .call { callee := .builtin .append, args := #[s, x], argTypes := #[t, t] })
    (base : Nat) (e : TypeId) (i : TypeInfo) (z : Value) (bytes : Nat) (ht : P.underlying t = some (.slice e)) (hi : P.info? e = some i) (hz : i.zero = some z)
    (hsize : i.size = 1) (hby : i.bytes = bytes) (hzs : z.cells.size = 1)
    (v : Value) (n : Nat) (xs : List Value) (hs : a.eval s = v) (hown : w.ownsRow base e 1 v n xs)
    (B2 : Nat) (v2 : Value) (m : Nat) (news : List Value) (hx : a.eval x = v2) (hsrc : w.ownsRow B2 e 1 v2 m news) (h1 : ∀ u ∈ news, u.oneCell' = true)
    (h63 : n + m ≤ maxLen) (hbytes : (n + m) * bytes ≤ 140737488355328) (hbase : base ≤ w.heap.size)
    (h : ∀ v' w', w'.ownsRow base e 1 v' (n + m) (xs ++ news) → w.grownBy w' v.ownBlock → wpList P ops Q rest (a.put o.dst v') w') : wpList P ops Q (o :: rest) a w := by
  rcases ownsRow_forms hsrc with ⟨e1, e2⟩ | ⟨g, c, e1⟩
  · subst e2
    have hn : news = [] := List.eq_nil_of_length_eq_zero (by have := hsrc.1; omega)
    subst hn
    exact wpList_append_own_none hgd s x t ho base e i 1 ht hi v n xs hs hown (by rw [hx, e1]) (h v w (by simpa using hown) (World.grownBy.refl w _))
  · subst e1
    by_cases hm : 0 < m
    · exact wpList_append_apart hgd s x t ho base e i z 1 bytes ht hi hz hsize hby hzs (by decide) v n xs hs hown ⟨g, 0, none⟩ m c news hx (by have := hsrc.1; omega) (hsrc.cells rfl) h1 h63 hbytes hbase hm (fun v' w' h2 h3 _ => h v' w' h2 h3)
    · have hm0 : m = 0 := by omega
      subst hm0
      have hn : news = [] := List.eq_nil_of_length_eq_zero (by have := hsrc.1; omega)
      subst hn
      exact wpList_append_own w hgd s x t ho base e i z 1 bytes ht hi hz hsize hby hzs (by decide) v n xs hs hown ⟨g, 0, none⟩ 0 c [] hx rfl (by intro j u hj; simp at hj) h1 h63 hbytes hbase (fun v' w' h2 h3 _ => h v' w' h2 h3)
end Go.Proofs.Ytflhefgmgdgffab
