/-
  What '==' says of two fits and of two sums.
-/
import Derived.Test.YtkmeeblkckfepabGreatEc
import Derived.Laws.StructEq
namespace Go.Proofs.YtkmeeblkckfepabGreat
open Go.RowKit
set_option linter.unusedSimpArgs false
set_option linter.unusedVariables false

theorem guardF : Tryz.prog.eqGuardType Tryz.prog.depth 72 = false := by kernel_rfl
theorem guardS : Tryz.prog.eqGuardType Tryz.prog.depth 88 = false := by kernel_rfl
set_option maxHeartbeats 2000000 in
theorem eqFit (x y : Ft) (w : World) : (Op.equalIn 10000 72 x.val y.val).run Tryz.prog w = .ok (x.like y) w := by
  obtain ⟨a1, a2, a3, a4, a5⟩ := x
  obtain ⟨b1, b2, b3, b4, b5⟩ := y
  have u3 := Tryz.underlying3
  have u4 := Tryz.underlying4
  have hS : Tryz.prog.underlying 72 = some (.struct (Tryz.prog.fieldsOf 72)) := by kernel_rfl
  have hp : Tryz.prog.stoodInHeld 72 = false := by kernel_rfl
  simp only [Ft.val, Ft.like]
  rw [show (10000 : Nat) = 9999 + 1 from rfl, run_equalIn_agg w 9999 72 _ _ hS hp]
  simp only [Program.fieldsOf, Tryz.underlying72]
  go_simp
  by_cases h1 : a1 = b1
  rotate_left
  · simp [h1]
  by_cases h2 : a2 = b2
  rotate_left
  · simp [h1, h2]
  by_cases h3 : a3 = b3
  rotate_left
  · simp [h1, h2, h3]
  by_cases h4 : a4 = b4
  rotate_left
  · simp [h1, h2, h3, h4]
  by_cases h5 : a5 = b5
  · simp [h1, h2, h3, h4, h5]
  · simp [h1, h2, h3, h4, h5]
theorem eqlFit (x y : Ft) (w : World) : (binOp .eql 72 x.val y.val).run Tryz.prog w = .ok (.bool (x.like y)) w := by
  have := eqFit x y w
  simp only [Ft.val] at *
  rw [run_eql_struct, this]
  rfl
theorem guardFit (op : BinOp) (x y : Operand) (xs ys : Array Value) (w : World) : (eqGuard op 72 x y (.agg xs) (.agg ys)).run Tryz.prog w = .ok () w := run_eqGuard_agg w op 72 x y xs ys guardF
set_option maxHeartbeats 2000000 in
theorem eqSum (x y : Sm) (w : World) : (Op.equalIn 10000 88 x.val y.val).run Tryz.prog w = .ok (x.like y) w := by
  obtain ⟨a1, a2, a3, a4⟩ := x
  obtain ⟨b1, b2, b3, b4⟩ := y
  have u3 := Tryz.underlying3
  have hS : Tryz.prog.underlying 88 = some (.struct (Tryz.prog.fieldsOf 88)) := by kernel_rfl
  have hp : Tryz.prog.stoodInHeld 88 = false := by kernel_rfl
  simp only [Sm.val, Sm.like]
  rw [show (10000 : Nat) = 9999 + 1 from rfl, run_equalIn_agg w 9999 88 _ _ hS hp]
  simp only [Program.fieldsOf, Tryz.underlying88]
  go_simp
  by_cases h1 : a1 = b1
  rotate_left
  · simp [h1]
  by_cases h2 : a2 = b2
  rotate_left
  · simp [h1, h2]
  by_cases h3 : a3 = b3
  rotate_left
  · simp [h1, h2, h3]
  by_cases h4 : a4 = b4
  · simp [h1, h2, h3, h4]
  · simp [h1, h2, h3, h4]
theorem eqlSum (x y : Sm) (w : World) : (binOp .eql 88 x.val y.val).run Tryz.prog w = .ok (.bool (x.like y)) w := by
  have := eqSum x y w
  simp only [Sm.val] at *
  rw [run_eql_struct, this]
  rfl
theorem guardSum (op : BinOp) (x y : Operand) (xs ys : Array Value) (w : World) : (eqGuard op 88 x y (.agg xs) (.agg ys)).run Tryz.prog w = .ok () w := run_eqGuard_agg w op 88 x y xs ys guardS

end Go.Proofs.YtkmeeblkckfepabGreat
