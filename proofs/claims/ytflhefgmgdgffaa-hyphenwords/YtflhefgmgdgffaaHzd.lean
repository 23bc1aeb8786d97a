/-
  Two pairs of numbers: alike.
-/
import Derived.Test.YtflhefgmgdgffaaHzc
import Derived.Laws.StructEq
namespace Go.Proofs.Ytflhefgmgdgffaa
open Go.RowKit Go.Maps
set_option linter.unusedSimpArgs false
set_option linter.unusedVariables false

theorem guardPair : Try.prog.eqGuardType Try.prog.depth 43 = false := by kernel_rfl
theorem eqPair (a b : Int) (w : World) : (Op.equalIn 10000 43 (.agg #[.int .i64 a, .int .i64 b]) (.agg #[.int .i64 a, .int .i64 b])).run Try.prog w = .ok true w := by
  have u3 := Try.underlying3
  have uA := Try.underlying43
  obtain ⟨i2, hi2, hz0, hz1, hz2⟩ := info_parts info_int
  rw [show (10000 : Nat) = 9998 + 1 + 1 from rfl]
  unfold Op.equalIn
  have hsz : (sizeOf 3).run Try.prog w = .ok 1 w := by kernel_rfl
  simp only [Sem.run_bind, run_underlying uA, Result.andThen_ok, hsz, Std.Legacy.Range.forIn_eq_forIn_range', Std.Legacy.Range.size, Nat.sub_zero, Nat.add_sub_cancel, Nat.div_one]
  have r2 : List.range' 0 2 1 = [0, 1] := rfl
  rw [r2]
  simp only [List.forIn_cons, List.forIn_nil, Sem.run_bind]
  unfold Op.equalIn
  simp only [Sem.run_bind, run_underlying u3, Result.andThen_ok]
  go_simp
theorem neqPair (a b : Int) (w : World) : (binOp .neq 43 (.agg #[.int .i64 a, .int .i64 b]) (.agg #[.int .i64 a, .int .i64 b])).run Try.prog w = .ok (.bool false) w := by
  rw [run_neq_struct, eqPair]
  rfl
theorem guardPr (op : BinOp) (x y : Operand) (xs ys : Array Value) (w : World) : (eqGuard op 43 x y (.agg xs) (.agg ys)).run Try.prog w = .ok () w := run_eqGuard_agg w op 43 x y xs ys guardPair
end Go.Proofs.Ytflhefgmgdgffaa
