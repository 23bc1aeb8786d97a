/-
  Plain: which patterns a walk over a row has met so far; a row of levels, each the greatest met there.
-/
import Derived.Test.YtflhefgmgdgffaaDoorHyi
import Derived.Lib.MinMax
namespace Go.Proofs.YtflhefgmgdgffaaDoor
open Go.RowKit Go.Maps
set_option linter.unusedSimpArgs false
set_option linter.unusedVariables false

abbrev PL : Type := List (List Nat × List Nat)
/-- Of the patterns that begin ahead of place F. -/
def C1 (F : Nat) (i a k : Nat) : Prop := a < F
/-- And of those that begin there the ones of at most D signs. -/
def C2 (Q : PL) (F D : Nat) (i a k : Nat) : Prop := a < F ∨ (a = F ∧ (Q.getD i default).1.length ≤ D)
/-- And of those of D + 1 signs the first K levels. -/
def C3 (Q : PL) (F D K : Nat) (i a k : Nat) : Prop := a < F ∨ (a = F ∧ (Q.getD i default).1.length ≤ D) ∨ (a = F ∧ (Q.getD i default).1.length = D + 1 ∧ k < K)
/-- The levels of a row: each the greatest of those that C names. -/
def LvIs (Q : PL) (row : List Nat) (C : Nat → Nat → Nat → Prop) (X : List Nat) : Prop := X.length = row.length + 1 ∧ ∀ j, j < row.length + 1 → Mx (Hit Q row C j) (X.getD j 0)
theorem LvIs.same {Q : PL} {row : List Nat} {C C' : Nat → Nat → Nat → Prop} {X : List Nat} (h : LvIs Q row C X) (e : ∀ i a k, Std Q row i a k → (C' i a k ↔ C i a k)) : LvIs Q row C' X :=
  ⟨h.1, fun j hj => hit_same e (h.2 j hj)⟩
theorem LvIs.le {Q : PL} {row : List Nat} {C : Nat → Nat → Nat → Prop} {X : List Nat} (h : LvIs Q row C X) (h9 : ∀ e ∈ Q, ∀ v ∈ e.2, v ≤ 9) (j : Nat) (hj : j < row.length + 1) : X.getD j 0 ≤ 9 := mx_le (h.2 j hj) h9
theorem getD_set (X : List Nat) (i j v : Nat) (hi : i < X.length) : (X.set i v).getD j 0 = if j = i then v else X.getD j 0 := by
  simp only [List.getD_eq_getElem?_getD, List.getElem?_set]
  by_cases c : i = j
  · subst c; simp [hi]
  · simp [c, Ne.symm c]
theorem LvIs.put {Q : PL} {row : List Nat} {C C' : Nat → Nat → Nat → Prop} {X : List Nat} {i0 a0 k0 : Nat} (h : LvIs Q row C X) (hs : Std Q row i0 a0 k0) (hj : a0 + k0 < row.length + 1) (e : ∀ i a k, Std Q row i a k → (C' i a k ↔ C i a k ∨ (i = i0 ∧ a = a0 ∧ k = k0))) : LvIs Q row C' (X.set (a0 + k0) (max (X.getD (a0 + k0) 0) ((Q.getD i0 default).2.getD k0 0))) := by
  refine ⟨by rw [List.length_set]; exact h.1, fun j hj' => ?_⟩
  have ha := hit_add hs e (h.2 j hj')
  rw [getD_set _ _ _ _ (by rw [h.1]; exact hj)]
  by_cases c : j = a0 + k0
  · rw [if_pos c]; subst c; exact ha.1 rfl
  · rw [if_neg c]; exact ha.2 c
theorem lv_none (Q : PL) (row : List Nat) : LvIs Q row (C1 0) (List.replicate (row.length + 1) 0) := by
  refine ⟨by simp, fun j hj => ?_⟩
  have e : (List.replicate (row.length + 1) 0).getD j 0 = 0 := by simp [List.getD_eq_getElem?_getD, List.getElem?_replicate, hj]
  rw [e]
  exact Mx.none (fun u ⟨i, a, k, _, c, _⟩ => by unfold C1 at c; omega)
theorem Q_get {Q : PL} {i : Nat} (hi : i < Q.length) : Q.getD i default ∈ Q := by
  rw [show Q.getD i default = Q[i] by simp [List.getD_eq_getElem?_getD, hi]]
  exact List.getElem_mem hi
section
variable {Q : PL} {row : List Nat} {Nd : List (List Nat)} (hne : ∀ e ∈ Q, e.1 ≠ []) (hQ : ∀ e ∈ Q, ∃ t : Nat, Nd[t]? = some e.1) (hT : TrOk Nd)
include hne
theorem c_start (F i a k : Nat) (h : Std Q row i a k) : C2 Q F 0 i a k ↔ C1 F i a k := by
  have := hne _ (Q_get h.1)
  have hl : 0 < (Q.getD i default).1.length := by
    cases c : (Q.getD i default).1 with
    | nil => exact absurd c this
    | cons x y => simp
  unfold C2 C1
  omega
theorem c_all (i a k : Nat) (h : Std Q row i a k) : True ↔ C1 row.length i a k := by
  have := hne _ (Q_get h.1)
  have hl : 0 < (Q.getD i default).1.length := by
    cases c : (Q.getD i default).1 with
    | nil => exact absurd c this
    | cons x y => simp
  have := h.2.2.1
  unfold C1
  simp; omega
omit hne
theorem c_in (F D i a k : Nat) : C3 Q F D 0 i a k ↔ C2 Q F D i a k := by unfold C3 C2; omega
theorem c_end (F i a k : Nat) (h : Std Q row i a k) : C1 (F + 1) i a k ↔ C2 Q F (row.length - F) i a k := by
  have := h.2.2.1
  unfold C1 C2
  omega
include hQ hT
theorem c_break (F D : Nat) (hF : F + D < row.length) (hno : ∀ t : Nat, Nd[t]? ≠ some ((row.drop F).take (D + 1))) (i a k : Nat) (h : Std Q row i a k) : C1 (F + 1) i a k ↔ C2 Q F D i a k := by
  unfold C1 C2
  constructor
  · intro c
    by_cases d : a < F
    · exact .inl d
    · obtain rfl : a = F := by omega
      refine .inr ⟨rfl, ?_⟩
      apply Classical.byContradiction
      intro e
      obtain ⟨t, ht⟩ := hQ _ (Q_get h.1)
      obtain ⟨t', ht'⟩ := hT.pre t _ (D + 1) ht
      rw [← h.2.2.2.1, List.take_take, Nat.min_eq_left (by omega)] at ht'
      exact hno t' ht'
  · rintro (c | ⟨c, -⟩) <;> omega
omit hQ hT
theorem c_next {F D K i0 : Nat} {V : List Nat} (hi : i0 < Q.length) (hc : cnts Q i0) (he : Q.getD i0 default = ((row.drop F).take (D + 1), V)) (hF : F + D < row.length) (i a k : Nat) (h : Std Q row i a k) : C3 Q F D (K + 1) i a k ↔ C3 Q F D K i a k ∨ (i = i0 ∧ a = F ∧ k = K) := by
  unfold C3
  have hl : ((row.drop F).take (D + 1)).length = D + 1 := by simp; omega
  constructor
  · rintro (c | c | ⟨c1, c2, c3⟩)
    · exact .inl (.inl c)
    · exact .inl (.inr (.inl c))
    · by_cases d : k < K
      · exact .inl (.inr (.inr ⟨c1, c2, d⟩))
      · right
        refine ⟨?_, c1, by omega⟩
        apply cnts_one Q i i0 h.1 hi h.2.1 hc
        have := h.2.2.2.1
        rw [c2, c1] at this
        rw [he, ← this]
  · rintro ((c | c | ⟨c1, c2, c3⟩) | ⟨c1, c2, c3⟩)
    · exact .inl c
    · exact .inr (.inl c)
    · exact .inr (.inr ⟨c1, c2, by omega⟩)
    · refine .inr (.inr ⟨c2, ?_, by omega⟩)
      rw [c1, he]; exact hl
theorem c_done {F D : Nat} {V : List Nat} (hF : F + D < row.length) (hv : lookL Q ((row.drop F).take (D + 1)) = some V ∨ (lookL Q ((row.drop F).take (D + 1)) = none ∧ V = [])) (i a k : Nat) (h : Std Q row i a k) : C2 Q F (D + 1) i a k ↔ C3 Q F D V.length i a k := by
  unfold C2 C3
  constructor
  · rintro (c | ⟨c1, c2⟩)
    · exact .inl c
    · by_cases d : (Q.getD i default).1.length ≤ D
      · exact .inr (.inl ⟨c1, d⟩)
      · right; right
        refine ⟨c1, by omega, ?_⟩
        have e1 := h.2.2.2.1
        rw [show (Q.getD i default).1.length = D + 1 by omega, c1] at e1
        have e2 := ((cnts_iff Q i h.1).1 h.2.1).1
        rw [← e1] at e2
        rcases hv with hv | ⟨hv, -⟩
        · rw [hv] at e2; injection e2 with e2
          rw [e2]; exact h.2.2.2.2
        · rw [hv] at e2; cases e2
  · rintro (c | c | c) <;> omega
end
theorem drop_take_snoc (row : List Nat) (F D : Nat) (h : F + D < row.length) : (row.drop F).take (D + 1) = (row.drop F).take D ++ [row.getD (F + D) 0] := by
  rw [List.take_succ_eq_append_getElem (by simp; omega)]
  simp [List.getD_eq_getElem?_getD, h]
/-- Patterns put: their signs, their levels, the levels' slice. -/
abbrev ZL : Type := List (List Nat × List Nat × Value)
def zQ (Z : ZL) : PL := Z.map fun e => (e.1, e.2.1)
def zV (Z : ZL) : List (List Nat × Value) := Z.map fun e => (e.1, e.2.2)
theorem zQ_look (Z : ZL) (x : List Nat) : lookL (zQ Z) x = (lookL Z x).map (·.1) := lookL_map (fun e : List Nat × Value => e.1) Z x
theorem zV_look (Z : ZL) (x : List Nat) : lookL (zV Z) x = (lookL Z x).map (·.2) := lookL_map (fun e : List Nat × Value => e.2) Z x
theorem zQ_snoc (Z : ZL) (e : List Nat × List Nat × Value) : zQ (Z ++ [e]) = zQ Z ++ [(e.1, e.2.1)] := by simp [zQ]
theorem zV_snoc (Z : ZL) (e : List Nat × List Nat × Value) : zV (Z ++ [e]) = zV Z ++ [(e.1, e.2.2)] := by simp [zV]
/-- The patterns are such, and their levels can be read. -/
def ZOk (w : World) (Z : ZL) : Prop := ∀ e ∈ Z, e.1 ≠ [] ∧ e.2.1.length = e.1.length + 1 ∧ (∀ v ∈ e.2.1, v ≤ 9) ∧ e.1.length ≤ 256 ∧ ∃ B, w.ownsRow B 5 1 e.2.2 e.2.1.length (bvals e.2.1)
theorem ZOk.below {w w' : World} {Z : ZL} (h : ZOk w Z) (hb : Below w.heap.size w w') : ZOk w' Z := fun e he => by
  obtain ⟨h1, h2, h3, h4, B, h5⟩ := h e he
  exact ⟨h1, h2, h3, h4, B, owns_below h5 hb⟩
theorem zQ_mem {Z : ZL} {e : List Nat × List Nat} (h : e ∈ zQ Z) : ∃ v, (e.1, e.2, v) ∈ Z := by
  obtain ⟨x, hx, rfl⟩ := List.mem_map.1 h
  exact ⟨x.2.2, hx⟩
theorem ZOk.ne {w : World} {Z : ZL} (h : ZOk w Z) : ∀ e ∈ zQ Z, e.1 ≠ [] := fun e he => by
  obtain ⟨v, hv⟩ := zQ_mem he
  exact (h _ hv).1
theorem ZOk.nine {w : World} {Z : ZL} (h : ZOk w Z) : ∀ e ∈ zQ Z, ∀ v ∈ e.2, v ≤ 9 := fun e he => by
  obtain ⟨v, hv⟩ := zQ_mem he
  exact (h _ hv).2.2.1
theorem zends {Nd : List (List Nat)} {Z : ZL} (h : ∀ e ∈ zV Z, ∃ t : Nat, Nd[t]? = some e.1) : ∀ e ∈ zQ Z, ∃ t : Nat, Nd[t]? = some e.1 := fun e he => by
  obtain ⟨v, hv⟩ := zQ_mem he
  exact h (e.1, v) (List.mem_map.2 ⟨_, hv, rfl⟩)
/-- What is known at a node: its levels, or none. -/
theorem zlook {w : World} {Z : ZL} (h : ZOk w Z) (p : List Nat) : ∃ (V : List Nat) (vv : Value) (ao : Option Addr) (cap : Nat), vv = .slice ao V.length cap ∧ (lookL (zQ Z) p = some V ∨ (lookL (zQ Z) p = none ∧ V = [])) ∧ ((lookL (zV Z) p = some vv) ∨ (lookL (zV Z) p = none ∧ vv = .slice none 0 0)) ∧ (∀ v ∈ V, v ≤ 9) ∧ V.length ≤ 257 ∧ (V ≠ [] → V.length = p.length + 1) ∧ ∃ B, w.ownsRow B 5 1 vv V.length (bvals V) := by
  cases hz : lookL Z p with
  | none =>
    refine ⟨[], .slice none 0 0, none, 0, rfl, .inr ⟨by rw [zQ_look, hz]; rfl, rfl⟩, .inr ⟨by rw [zV_look, hz]; rfl, rfl⟩, by simp, by simp, by simp, 0, World.ownsRow_nil _ _ _ _⟩
  | some e =>
    obtain ⟨V, vv⟩ := e
    obtain ⟨h1, h2, h3, h4, B, h5⟩ := h _ (lookL_mem Z p _ hz)
    simp only at h1 h2 h3 h4 h5
    obtain ⟨ao, cap, e⟩ := own_shape h5
    exact ⟨V, vv, ao, cap, e, .inl (by rw [zQ_look, hz]; rfl), .inl (by rw [zV_look, hz]; rfl), h3, by omega, fun _ => h2, B, h5⟩
end Go.Proofs.YtflhefgmgdgffaaDoor
