/-
  What the program's Mul, Sub, Neg and Scale answer.
-/
import Derived.Test.YtkmeeblkckfepabGreatX
import Derived.Test.YtkmeeblkckfepabGreatV
namespace Go.Proofs.YtkmeeblkckfepabGreat
open Go.RowKit
set_option linter.unusedSimpArgs false
set_option linter.unusedVariables false

theorem mdv_one (a b : Int) : mdv a b 1 = ml a b := by
  unfold mdv ml
  rw [if_neg (by omega)]
  have : cl 1 = 1 := by decide
  rw [this, Int.fdiv_one]

set_option maxRecDepth 100000 in
set_option maxHeartbeats 400000 in
theorem mul_any (a b : Int) (w : World) :
    Calls Tryz.prog 82 #[.int .i64 a, .int .i64 b] w fun e w' => e = .returned (.int .i64 (ml a b)) ∧ ∃ n, w' = w.drewN n := by
  rw [← mdv_one]
  go_enter Tryz.func82, Tryz.ntmps82
  go_wp2_with fail
  refine (muldiv_any _ _ _ _).mono ?_
  rintro e w' ⟨rfl, n, rfl⟩
  go_wp2_with fail
  go_ret
  exact ⟨rfl, _, rfl⟩

set_option maxRecDepth 100000 in
set_option maxHeartbeats 400000 in
theorem sub_any (a b : Int) (w : World) :
    Calls Tryz.prog 77 #[.int .i64 a, .int .i64 b] w fun e w' => e = .returned (.int .i64 (cl (cl a - cl b))) ∧ w' = w := by
  have h1 := cl_le a
  have h2 := cl_le b
  go_enter Tryz.func77, Tryz.ntmps77
  go_wp2_with (go_at_call 75; refine (clamp_any _ _).mono ?_; rintro e w' ⟨rfl, hw'⟩; subst w')
  go_ret
  exact ⟨rfl, rfl⟩
end Go.Proofs.YtkmeeblkckfepabGreat
