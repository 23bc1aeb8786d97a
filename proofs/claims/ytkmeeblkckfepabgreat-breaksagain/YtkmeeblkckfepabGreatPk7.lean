/-
  What the document's bare and Compare answer: bare: the same number without noughts at the end, in new memory; Compare: -1, 0 or 1 as the first number is less than, as great as or greater than the second.
-/
import Derived.Laws.AppendOwnNone
import Derived.Test.YtkmeeblkckfepabGreatPk1
import Derived.Test.YtkmeeblkckfepabGreatPk0
namespace Go.Proofs.YtkmeeblkckfepabGreat
open Go.RowKit
set_option linter.unusedSimpArgs false
set_option linter.unusedVariables false

theorem vl_zeros (l : List Nat) (k : Nat) (hk : k ≤ l.length) (h : ∀ j, k ≤ j → j < l.length → l.getD j 0 = 0) : vl (l.take k) = vl l := by
  have h1 := vl_split l k hk
  have h2 : vl (l.drop k) = 0 := by
    have : ∀ (m : List Nat), (∀ d ∈ m, d = 0) → vl m = 0 := by
      intro m
      induction m with
      | nil => intro _; rfl
      | cons d r ih => intro h; simp only [vl]; rw [h d (List.mem_cons_self), ih (fun x hx => h x (List.mem_cons_of_mem _ hx))]
    apply this
    intro d hd
    obtain ⟨i, hi, rfl⟩ := List.getElem_of_mem hd
    simp only [List.length_drop] at hi
    have := h (k + i) (by omega) (by omega)
    rw [List.getElem_drop]
    rw [getD_at _ _ (by omega)] at this
    exact this
  rw [h2] at h1; omega

end Go.Proofs.YtkmeeblkckfepabGreat

/-
  What the document's Compare answers: -1, 0 or 1 as the first number is less than, as great as or greater than the second.
-/
namespace Go.Proofs.YtkmeeblkckfepabGreat
open Go.RowKit
set_option linter.unusedSimpArgs false
set_option linter.unusedVariables false

/-- How two numbers compare. -/
def cp (x y : Nat) : Int := if x < y then -1 else if y < x then 1 else 0
theorem cp_lt {x y : Nat} (h : x < y) : cp x y = -1 := by simp [cp, h]
theorem cp_gt {x y : Nat} (h : y < x) : cp x y = 1 := by unfold cp; rw [if_neg (by omega), if_pos h]
theorem cp_eq {x y : Nat} (h : x = y) : cp x y = 0 := by unfold cp; rw [if_neg (by omega), if_neg (by omega)]

theorem drop_eq_step (a b : List Nat) (k : Nat) (hl : a.length = b.length) (hk : k < a.length) (h : a.drop (k + 1) = b.drop (k + 1)) (e : a.getD k 0 = b.getD k 0) : a.drop k = b.drop k := by
  rw [getD_at _ _ hk, getD_at _ _ (by omega)] at e
  rw [List.drop_eq_getElem_cons hk, List.drop_eq_getElem_cons (by omega : k < b.length), h, e]

end Go.Proofs.YtkmeeblkckfepabGreat

/-
  What the document's Times answers: the product's digits, in new memory, with no nought at the end.
-/
namespace Go.Proofs.YtkmeeblkckfepabGreat
open Go.RowKit
set_option linter.unusedSimpArgs false
set_option linter.unusedVariables false

theorem vals_set (l : List Nat) (j x : Nat) : (vals l).set j (.int .i64 (x : Int)) = vals (l.set j x) := by simp [vals, List.map_set]

theorem made_zero (n : Nat) : (madeCells #[Value.int .i64 0] n).toList = vals (List.replicate n 0) := by
  rw [toList_madeCells_one]
  simp [vals]

theorem cell_of {w : World} {base g n : Nat} {l : List Nat} (h : w.ownsRow base 3 1 (.slice (some ⟨g, 0, none⟩) n n) n (vals l)) (hl : l.length = n) (j : Nat) (hj : j < n) :
    w.cell? ⟨g, j, none⟩ = some (.int .i64 ((l.getD j 0 : Nat) : Int)) := by
  rw [h.cellAt j (by omega), vals_get l j (by omega)]

theorem store_one {w : World} {G n : Nat} {o : List Nat} (h : w.ownsRow G 3 1 (.slice (some ⟨G, 0, none⟩) n n) n (vals o)) (p a : Nat) (V : Int) (e : V = (a : Int)) :
    (w.setCell ⟨G, p, none⟩ (.int .i64 V)).ownsRow G 3 1 (.slice (some ⟨G, 0, none⟩) n n) n (vals (o.set p a)) := by
  subst e
  rw [← vals_set]
  exact (h.stored p _).1

end Go.Proofs.YtkmeeblkckfepabGreat

/-
  What the document's Back and Mul answer: Back: the digits' number, at most Most; Mul: the product of the clamped numbers, clamped.
-/
namespace Go.Proofs.YtkmeeblkckfepabGreat
open Go.RowKit
set_option linter.unusedSimpArgs false
set_option linter.unusedVariables false

theorem vl_drop_le (l : List Nat) (k : Nat) : vl (l.drop k) ≤ vl l := by
  by_cases h : k ≤ l.length
  · have h1 := vl_split l k h
    have h2 : 1 * vl (l.drop k) ≤ 1000 ^ k * vl (l.drop k) := Nat.mul_le_mul_right _ (Nat.pow_pos (by omega))
    omega
  · rw [List.drop_of_length_le (by omega)]; simp [vl]

theorem vl_drop (l : List Nat) (k : Nat) (h : k < l.length) : vl (l.drop k) = vl (l.drop (k + 1)) * 1000 + l.getD k 0 := by
  rw [List.drop_eq_getElem_cons h, getD_at _ _ h]
  simp only [vl]
  omega

/-- The product of the clamped numbers, clamped. -/
def ml (a b : Int) : Int := cl (cl a * cl b)

theorem ml_pos (x y : Int) (h : 0 ≤ x * y) : cl (x * y) = ((min (x.natAbs * y.natAbs) 1152921504606846976 : Nat) : Int) := by
  have e : x.natAbs * y.natAbs = (x * y).natAbs := (Int.natAbs_mul x y).symm
  rw [e]
  generalize x * y = z at *
  unfold cl
  split
  · omega
  · split <;> omega
theorem ml_neg (x y : Int) (h : x * y ≤ 0) : cl (x * y) = -((min (x.natAbs * y.natAbs) 1152921504606846976 : Nat) : Int) := by
  have e : x.natAbs * y.natAbs = (x * y).natAbs := (Int.natAbs_mul x y).symm
  rw [e]
  generalize x * y = z at *
  unfold cl
  split
  · omega
  · split <;> omega

theorem dig7 {r : List Nat} (hc : Cn r) (hv : vl r ≤ 1152921504606846976) : r.length ≤ 7 := hc.len 7 (by
  have : (1000 : Nat) ^ 7 = 1000000000000000000000 := by decide
  omega)

end Go.Proofs.YtkmeeblkckfepabGreat
