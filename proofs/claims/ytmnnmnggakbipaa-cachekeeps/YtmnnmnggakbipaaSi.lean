/-
  A key handed in and changed behind it, and others put behind it: the list in plain words; the row of runs that is written over.
-/
import Derived.Test.YtmnnmnggakbipaaSh
namespace Go.Proofs.Ytmnnmnggakbipaa
open Go.RowKit
set_option linter.unusedSimpArgs false
set_option linter.unusedVariables false

/-- Others put ahead of a key: it stays the last. -/
theorem keep_put {room : Int} {p l : List (Ky × Int)} {k j : Ky} {u v : Int} {m : Nat} (hn : ((p ++ [(k, u)]).map (fun x : Ky × Int => x.1)).Nodup) (hl : p.length ≤ m) (hm : (m : Int) + 1 < room) (hne : j ≠ k) (h : PutR room (p ++ [(k, u)]) j v l) : ∃ p', l = p' ++ [(k, u)] ∧ p'.length ≤ m + 1 := by
  rcases h with ⟨c, -⟩ | ⟨_, ⟨i, v0, e, rfl⟩ | ⟨_, ⟨c, -⟩ | ⟨_, rfl⟩⟩⟩
  · omega
  · by_cases hi : i < p.length
    · refine ⟨(j, v) :: p.eraseIdx i, ?_, ?_⟩
      · rw [List.eraseIdx_append_of_lt_length hi]; rfl
      · have := List.length_eraseIdx_le p i
        simp; omega
    · exfalso
      rw [List.getElem?_append_right (by omega)] at e
      have h0 : i - p.length = 0 := by
        by_cases c : i - p.length = 0
        · exact c
        · rw [List.getElem?_eq_none (by simp; omega)] at e; cases e
      rw [h0] at e
      simp at e
      exact hne e.1.symm
  · exfalso; simp at c; omega
  · exact ⟨(j, v) :: p, rfl, by simp; omega⟩
theorem KsAt.below {w w' : World} {ao : Option Addr} {n : Nat} {K : Nat → Kv} (h : KsAt w ao n K) (hb : Below w.heap.size w w') : KsAt w' ao n K := by
  intro i hi
  obtain ⟨⟨h1, h2⟩, b, off, e, h3⟩ := h i hi
  exact ⟨⟨h1.below hb, h2⟩, b, off, e, fun j u hu => hold hb (h3 j u hu)⟩
/-- A row of runs that may be written over. -/
structure Row2 (w : World) (g n : Nat) : Prop where
  row : ∃ arr t, w.heap[g]? = some (.cells arr t (0, 0)) ∧ ∀ j, j < n → ∃ y, arr[j * 2 + 1]? = some (.int .i64 y)
theorem Row2.keep {w w' : World} {g n : Nat} (h : Row2 w g n) (e : w'.heap[g]? = w.heap[g]?) : Row2 w' g n := by
  obtain ⟨arr, t, h1, h2⟩ := h.row
  exact ⟨arr, t, e.trans h1, h2⟩
theorem Row2.get {w : World} {g n : Nat} (h : Row2 w g n) {j : Nat} (hj : j < n) : ∃ y, w.cell? ⟨g, j * 2 + 1, none⟩ = some (.int .i64 y) ∧ w.frozen? ⟨g, j * 2 + 1, none⟩ = false := by
  obtain ⟨arr, t, h1, h2⟩ := h.row
  obtain ⟨y, hy⟩ := h2 j hj
  exact ⟨y, by simp [World.cell?, h1, hy], row_free h1 _⟩
theorem Row2.set {w : World} {g n : Nat} (h : Row2 w g n) (i : Nat) (z : Int) : Row2 (w.setCell ⟨g, i * 2 + 1, none⟩ (.int .i64 z)) g n := by
  obtain ⟨arr, t, h1, h2⟩ := h.row
  refine ⟨_, t, arr_set _ h1, fun j hj => ?_⟩
  obtain ⟨y, hy⟩ := h2 j hj
  by_cases c : j = i
  · subst c
    have hlt : j * 2 + 1 < arr.size := by
      obtain ⟨h, -⟩ := Array.getElem?_eq_some_iff.1 hy
      exact h
    exact ⟨z, by rw [Array.getElem?_setIfInBounds_self_of_lt hlt]⟩
  · exact ⟨y, by rw [Array.getElem?_setIfInBounds_ne (by omega)]; exact hy⟩
theorem row2_of {w : World} {B n m cap : Nat} {ao : Option Addr} {L Y : Nat → Int} (h : w.ownsRow B 62 2 (.slice ao m cap) n (rvs L Y n)) (hn : 0 < n) : ∃ g, ao = some ⟨g, 0, none⟩ ∧ B ≤ g ∧ g < w.heap.size ∧ Row2 w g n := by
  rcases h.2 with ⟨_, h2⟩ | ⟨g, c, cur, e, h3⟩
  · omega
  · injection e with e1 e2 e3
    subst e1
    have hl := h.lt g rfl
    refine ⟨g, rfl, hl.1, hl.2, ?_⟩
    obtain ⟨-, hb, -, -, -, ht⟩ := h3
    refine ⟨cur, 62, hb, fun j hj => ⟨Y j, ?_⟩⟩
    have h1 := (rvs_get L Y n j hj).2
    rw [← ht, List.getElem?_take, if_pos (by omega)] at h1
    simpa using h1
end Go.Proofs.Ytmnnmnggakbipaa
