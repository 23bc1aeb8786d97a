/-
  What the document's Times answers: the product's digits, in new memory, with no nought at the end.
-/
import Derived.Test.YtkmeeblkckfepabGreatF
import Derived.Test.YtkmeeblkckfepabGreatT
namespace Go.Proofs.YtkmeeblkckfepabGreat
open Go.RowKit
set_option linter.unusedSimpArgs false
set_option linter.unusedVariables false

theorem vals_set (l : List Nat) (j x : Nat) : (vals l).set j (.int .i64 (x : Int)) = vals (l.set j x) := by simp [vals, List.map_set]

theorem made_zero (n : Nat) : (madeCells #[Value.int .i64 0] n).toList = vals (List.replicate n 0) := by
  rw [toList_madeCells_one]
  simp [vals]

theorem cell_of {w : World} {base g n : Nat} {l : List Nat} (h : w.ownsRow base 3 1 (.slice (some ⟨g, 0, none⟩) n n) n (vals l)) (hl : l.length = n) (j : Nat) (hj : j < n) :
    w.cell? ⟨g, j, none⟩ = some (.int .i64 ((l.getD j 0 : Nat) : Int)) := by
  rw [h.cellAt j (by omega), vals_get l j (by omega)]

theorem store_one {w : World} {G n : Nat} {o : List Nat} (h : w.ownsRow G 3 1 (.slice (some ⟨G, 0, none⟩) n n) n (vals o)) (p a : Nat) (V : Int) (e : V = (a : Int)) :
    (w.setCell ⟨G, p, none⟩ (.int .i64 V)).ownsRow G 3 1 (.slice (some ⟨G, 0, none⟩) n n) n (vals (o.set p a)) := by
  subst e
  rw [← vals_set]
  exact (h.stored p _).1

end Go.Proofs.YtkmeeblkckfepabGreat
