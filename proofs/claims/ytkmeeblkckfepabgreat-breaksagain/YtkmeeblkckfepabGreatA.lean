/-
  What the program's small functions of layer 1 answer, each called with any numbers of 64 bits: Clamp, in any world.
-/
import Derived.Test.YtkmeeblkckfepabGreatRows
import Derived.Test.YtkmeeblkckfepabGreatP
import Derived.WalkKit
import Derived.WalkSpells
import Derived.Deep.QuietTactic
import Derived.BigQuiet
namespace Go.Proofs.YtkmeeblkckfepabGreat
open Go.RowKit

set_option linter.unusedSimpArgs false
set_option linter.unusedVariables false

theorem ret_int {k : IntKind} {a b : Int} (h : a = b) : Ending.returned (.int k a) = .returned (.int k b) := by rw [h]
theorem bel_drewN (B : Nat) (w : World) (n : Nat) : Below B w (w.drewN n) := ⟨rfl, rfl, rfl, Nat.le_refl _, fun _ _ => rfl⟩
theorem ret_bool {a b : Bool} (h : a = b) : Ending.returned (.bool a) = .returned (.bool b) := by rw [h]

set_option maxRecDepth 100000 in
set_option maxHeartbeats 400000 in
theorem clamp_any (a : Int) (w : World) :
    Calls Tryz.prog 75 #[.int .i64 a] w fun e w' => e = .returned (.int .i64 (cl a)) ∧ w' = w := by
  unfold cl
  by_cases h1 : a < -1152921504606846976
  · go_enter Tryz.func75, Tryz.ntmps75
    go_wp2
    go_ret
    exact ⟨by simp [h1], rfl⟩
  · by_cases h2 : 1152921504606846976 < a
    · go_enter Tryz.func75, Tryz.ntmps75
      go_wp2
      go_ret
      exact ⟨by simp [h1, h2], rfl⟩
    · go_enter Tryz.func75, Tryz.ntmps75
      go_wp2
      go_ret
      exact ⟨by simp [h1, h2], rfl⟩

/-- What Div answers: the quotient rounded down of the clamped numbers, and whether the second isn't nought. -/
def dv (a b : Int) : Int := if b = 0 then 0 else (cl a).fdiv (cl b)
def md (a b : Int) : Int := if b = 0 then 0 else (cl a).fmod (cl b)
def nz (b : Int) : Bool := !(b == 0)
theorem nz_t (b : Int) (h : ¬ b = 0) : nz b = true := by unfold nz; simp [h]
theorem nz_f (b : Int) (h : b = 0) : nz b = false := by unfold nz; simp [h]

set_option maxRecDepth 100000 in
set_option maxHeartbeats 400000 in
theorem bad_32 (w : World) : Calls Tryz.prog 84 #[.int .i64 3, .int .i64 2] w fun e w' => e = .returned (.int .i64 337) ∧ w' = w := by
  have c3 : cl 3 = 3 := by decide
  have c2 : cl 2 = 2 := by decide
  go_enter Tryz.func84, Tryz.ntmps84
  go_wp2_with (go_at_call 75; refine (clamp_any _ _).mono ?_; rintro e w' ⟨rfl, rfl⟩)
  go_ret
  exact ⟨rfl, rfl⟩

set_option maxRecDepth 100000 in
set_option maxHeartbeats 400000 in
theorem bad_92 (w : World) : Calls Tryz.prog 84 #[.int .i64 9, .int .i64 2] w fun e w' => e = .returned (.int .i64 9112) ∧ w' = w := by
  have c3 : cl 9 = 9 := by decide
  have c2 : cl 2 = 2 := by decide
  go_enter Tryz.func84, Tryz.ntmps84
  go_wp2_with (go_at_call 75; refine (clamp_any _ _).mono ?_; rintro e w' ⟨rfl, rfl⟩)
  go_ret
  exact ⟨rfl, rfl⟩

end Go.Proofs.YtkmeeblkckfepabGreat
