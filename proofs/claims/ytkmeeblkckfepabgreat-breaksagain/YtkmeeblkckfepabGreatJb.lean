/-
  At which items a line may end, and must: what the program's Forced and Legal and the document's answer.
-/
import Derived.Test.YtkmeeblkckfepabGreatJa
import Derived.Laws.StructEq
namespace Go.Proofs.YtkmeeblkckfepabGreat
open Go.RowKit
set_option linter.unusedSimpArgs false
set_option linter.unusedVariables false

set_option maxRecDepth 100000 in
set_option maxHeartbeats 1000000 in
theorem forced_any (x : Itm) (w : World) : Calls Tryz.prog 37 #[x.val] w fun e w' => e = .returned (.bool (forc x)) ∧ Below w.heap.size w w' := by
  unfold forc Itm.val
  obtain ⟨k, wd, st, sh, fl, c, fg, fr, to⟩ := x
  simp only
  cases h1 : (k == 3)
  all_goals
    by_cases h2 : c ≤ -10000
    all_goals
      go_enter Tryz.func37, Tryz.ntmps37
      go_wp2
      go_ret
      exact ⟨ret_bool (by simp [h2]), by go_grown⟩
set_option maxRecDepth 100000 in
set_option maxHeartbeats 1000000 in
theorem refforced_any (x : Itm) (w : World) : Calls Tryz.prog 21 #[x.val] w fun e w' => e = .returned (.bool (forc x)) ∧ Below w.heap.size w w' := by
  unfold forc Itm.val
  obtain ⟨k, wd, st, sh, fl, c, fg, fr, to⟩ := x
  simp only
  cases h1 : (k == 3)
  all_goals
    by_cases h2 : c ≤ -10000
    all_goals
      go_enter Tryz.func21, Tryz.ntmps21
      go_wp2
      go_ret
      exact ⟨ret_bool (by simp [h2]), by go_grown⟩
theorem measure_any (n : Int) (w : World) : Calls Tryz.prog 53 #[.int .i64 n] w fun e w' => e = .returned (.bool (ms n)) ∧ w' = w := by
  unfold ms
  by_cases h : 0 ≤ n
  all_goals
    go_enter Tryz.func53, Tryz.ntmps53
    go_wp2
    go_ret
    exact ⟨ret_bool (by first | (simp [h]; done) | (simp [h]; omega)), rfl⟩
end Go.Proofs.YtkmeeblkckfepabGreat
