/-
  What the document's Compare answers: -1, 0 or 1 as the first number is less than, as great as or greater than the second.
-/
import Derived.Test.YtkmeeblkckfepabGreatE
namespace Go.Proofs.YtkmeeblkckfepabGreat
open Go.RowKit
set_option linter.unusedSimpArgs false
set_option linter.unusedVariables false

/-- How two numbers compare. -/
def cp (x y : Nat) : Int := if x < y then -1 else if y < x then 1 else 0
theorem cp_lt {x y : Nat} (h : x < y) : cp x y = -1 := by simp [cp, h]
theorem cp_gt {x y : Nat} (h : y < x) : cp x y = 1 := by unfold cp; rw [if_neg (by omega), if_pos h]
theorem cp_eq {x y : Nat} (h : x = y) : cp x y = 0 := by unfold cp; rw [if_neg (by omega), if_neg (by omega)]

theorem drop_eq_step (a b : List Nat) (k : Nat) (hl : a.length = b.length) (hk : k < a.length) (h : a.drop (k + 1) = b.drop (k + 1)) (e : a.getD k 0 = b.getD k 0) : a.drop k = b.drop k := by
  rw [getD_at _ _ hk, getD_at _ _ (by omega)] at e
  rw [List.drop_eq_getElem_cons hk, List.drop_eq_getElem_cons (by omega : k < b.length), h, e]

end Go.Proofs.YtkmeeblkckfepabGreat
