/-
  What the document's bare and Compare answer: bare: the same number without noughts at the end, in new memory; Compare: -1, 0 or 1 as the first number is less than, as great as or greater than the second.
-/
import Derived.Test.YtkmeeblkckfepabGreatO
import Derived.Laws.AppendOwnNone
namespace Go.Proofs.YtkmeeblkckfepabGreat
open Go.RowKit
set_option linter.unusedSimpArgs false
set_option linter.unusedVariables false

theorem vl_zeros (l : List Nat) (k : Nat) (hk : k ≤ l.length) (h : ∀ j, k ≤ j → j < l.length → l.getD j 0 = 0) : vl (l.take k) = vl l := by
  have h1 := vl_split l k hk
  have h2 : vl (l.drop k) = 0 := by
    have : ∀ (m : List Nat), (∀ d ∈ m, d = 0) → vl m = 0 := by
      intro m
      induction m with
      | nil => intro _; rfl
      | cons d r ih => intro h; simp only [vl]; rw [h d (List.mem_cons_self), ih (fun x hx => h x (List.mem_cons_of_mem _ hx))]
    apply this
    intro d hd
    obtain ⟨i, hi, rfl⟩ := List.getElem_of_mem hd
    simp only [List.length_drop] at hi
    have := h (k + i) (by omega) (by omega)
    rw [List.getElem_drop]
    rw [getD_at _ _ (by omega)] at this
    exact this
  rw [h2] at h1; omega

end Go.Proofs.YtkmeeblkckfepabGreat
