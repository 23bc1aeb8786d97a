/-
  What the program's Usual and the statements' awake answer.
-/
import Derived.Test.YtkmeeblkckfepabGreatEe
namespace Go.Proofs.YtkmeeblkckfepabGreat
open Go.RowKit
set_option linter.unusedSimpArgs false
set_option linter.unusedVariables false

set_option maxRecDepth 100000 in
set_option maxHeartbeats 1000000 in
theorem usual_any (w : World) : Calls Tryz.prog 10 #[] w fun e w' => e = .returned (.agg #[.int .i64 200, .int .i64 10, .int .i64 10000, .int .i64 10000, .int .i64 5000, .int .i64 2, .int .i64 2]) ∧ Below w.heap.size w w' := by
  go_enter Tryz.func10, Tryz.ntmps10
  go_wp2
  refine bodyPost_ret (v := .agg #[.int .i64 200, .int .i64 10, .int .i64 10000, .int .i64 10000, .int .i64 5000, .int .i64 2, .int .i64 2]) (by simp [results, Tryz.results10, go_sem]) rfl ⟨rfl, by go_grown⟩
theorem kept_first {w w2 : World} {cs : Array Value} {t : TypeId} (hb : Below (w.alloc (.cells cs t)).heap.size (w.alloc (.cells cs t)) w2) (j : Nat) : w2.cell? ⟨w.heap.size, j, none⟩ = cs[j]? := by
  rw [hb.cell (p := ⟨w.heap.size, j, none⟩) (by simp)]
  exact cell_first _ _ _ _
theorem kept_below {B : Nat} {w w1 w2 : World} {o : Obj} (h1 : Below B w w1) (hB : B ≤ w.heap.size) (hb : Below (w1.alloc o).heap.size (w1.alloc o) w2) : Below B w w2 := by
  have hz := Nat.le_trans hB h1.size
  exact (h1.alloc hz _).trans (hb.mono (by simp; omega))
theorem fldU (a b c d e f g : Value) (w : World) : (Instr.field 24 (.agg #[a, b, c, d, e, f, g]) 0).run Tryz.prog w = .ok a w := by kernel_rfl
theorem set_one : setF ⟨90, 20, 0, 0⟩ 100 = ⟨1, 2, 12, 1, false⟩ := by kernel_rfl
theorem set_two : setF ⟨90, 20, 0, 0⟩ 120 = ⟨3, 2, 337, 3, false⟩ := by kernel_rfl
end Go.Proofs.YtkmeeblkckfepabGreat
