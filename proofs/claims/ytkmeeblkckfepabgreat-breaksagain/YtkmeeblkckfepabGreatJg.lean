/-
  What '==' and '!=' say of two items; what the document's Same answers.
-/
import Derived.Test.YtkmeeblkckfepabGreatJb
import Derived.Laws.StructEq
import Derived.BigRegion
namespace Go.Proofs.YtkmeeblkckfepabGreat
open Go.RowKit
set_option linter.unusedSimpArgs false
set_option linter.unusedVariables false

theorem guardI : Tryz.prog.eqGuardType Tryz.prog.depth 52 = false := by kernel_rfl
set_option maxHeartbeats 2000000 in
theorem eqItem (x y : Itm) (w : World) : (Op.equalIn 10000 52 x.val y.val).run Tryz.prog w = .ok (x.like y) w := by
  obtain ⟨a1, a2, a3, a4, a5, a6, a7, a8, a9⟩ := x
  obtain ⟨b1, b2, b3, b4, b5, b6, b7, b8, b9⟩ := y
  have u3 := Tryz.underlying3
  have u4 := Tryz.underlying4
  have hS : Tryz.prog.underlying 52 = some (.struct (Tryz.prog.fieldsOf 52)) := by kernel_rfl
  have hp : Tryz.prog.stoodInHeld 52 = false := by kernel_rfl
  simp only [Itm.val, Itm.like]
  rw [show (10000 : Nat) = 9999 + 1 from rfl, run_equalIn_agg w 9999 52 _ _ hS hp]
  simp only [Program.fieldsOf, Tryz.underlying52]
  go_simp
  by_cases h1 : a1 = b1
  rotate_left
  · simp [h1]
  by_cases h2 : a2 = b2
  rotate_left
  · simp [h1, h2]
  by_cases h3 : a3 = b3
  rotate_left
  · simp [h1, h2, h3]
  by_cases h4 : a4 = b4
  rotate_left
  · simp [h1, h2, h3, h4]
  by_cases h5 : a5 = b5
  rotate_left
  · simp [h1, h2, h3, h4, h5]
  by_cases h6 : a6 = b6
  rotate_left
  · simp [h1, h2, h3, h4, h5, h6]
  by_cases h7 : a7 = b7
  rotate_left
  · simp [h1, h2, h3, h4, h5, h6, h7]
  by_cases h8 : a8 = b8
  rotate_left
  · simp [h1, h2, h3, h4, h5, h6, h7, h8]
  by_cases h9 : a9 = b9
  · simp [h1, h2, h3, h4, h5, h6, h7, h8, h9]
  · simp [h1, h2, h3, h4, h5, h6, h7, h8, h9]
theorem neqItem (x y : Itm) (w : World) : (binOp .neq 52 x.val y.val).run Tryz.prog w = .ok (.bool (!x.like y)) w := by
  have := eqItem x y w
  simp only [Itm.val] at *
  rw [run_neq_struct, this]
  rfl
theorem eqlItem (x y : Itm) (w : World) : (binOp .eql 52 x.val y.val).run Tryz.prog w = .ok (.bool (x.like y)) w := by
  have := eqItem x y w
  simp only [Itm.val] at *
  rw [run_eql_struct, this]
  rfl
theorem guardItem (op : BinOp) (x y : Operand) (xs ys : Array Value) (w : World) : (eqGuard op 52 x y (.agg xs) (.agg ys)).run Tryz.prog w = .ok () w := run_eqGuard_agg w op 52 x y xs ys guardI

/-- Are two lists of items alike? -/
def smI (I J : Nat → Itm) (n m : Nat) : Bool := decide (n = m) && (List.range n).all fun i => (I i).like (J i)
theorem smI_iff (I J : Nat → Itm) (n m : Nat) : smI I J n m = true ↔ n = m ∧ ∀ i, i < n → (I i).like (J i) = true := by
  simp [smI, List.all_eq_true]
theorem smI_no (I J : Nat → Itm) (n m : Nat) (h : ¬ (n = m ∧ ∀ i, i < n → (I i).like (J i) = true)) : smI I J n m = false := by
  cases e : smI I J n m with
  | false => rfl
  | true => exact absurd ((smI_iff I J n m).1 e) h

end Go.Proofs.YtkmeeblkckfepabGreat
