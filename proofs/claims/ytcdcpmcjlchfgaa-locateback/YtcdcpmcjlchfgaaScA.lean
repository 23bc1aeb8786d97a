/-
  What the program's small functions of layer 1 answer, each called with any numbers of 64 bits: Clamp, in any world.
-/
import Derived.Test.YtcdcpmcjlchfgaaRows
import Derived.Test.YtcdcpmcjlchfgaaScP
import Derived.WalkKit
import Derived.WalkSpells
import Derived.Deep.QuietTactic
import Derived.BigQuiet
namespace Go.Proofs.Ytcdcpmcjlchfgaa.Sc
open Go.RowKit

set_option linter.unusedSimpArgs false
set_option linter.unusedVariables false

theorem ret_int {k : IntKind} {a b : Int} (h : a = b) : Ending.returned (.int k a) = .returned (.int k b) := by rw [h]
theorem bel_drewN (B : Nat) (w : World) (n : Nat) : Below B w (w.drewN n) := ⟨rfl, rfl, rfl, Nat.le_refl _, fun _ _ => rfl⟩
theorem ret_bool {a b : Bool} (h : a = b) : Ending.returned (.bool a) = .returned (.bool b) := by rw [h]

set_option maxRecDepth 100000 in
set_option maxHeartbeats 400000 in
theorem clamp_any (a : Int) (w : World) :
    Calls Try.prog 57 #[.int .i64 a] w fun e w' => e = .returned (.int .i64 (cl a)) ∧ w' = w := by
  unfold cl
  by_cases h1 : a < -1152921504606846976
  · go_enter Try.func57, Try.ntmps57
    go_wp2
    go_ret
    exact ⟨by simp [h1], rfl⟩
  · by_cases h2 : 1152921504606846976 < a
    · go_enter Try.func57, Try.ntmps57
      go_wp2
      go_ret
      exact ⟨by simp [h1, h2], rfl⟩
    · go_enter Try.func57, Try.ntmps57
      go_wp2
      go_ret
      exact ⟨by simp [h1, h2], rfl⟩

/-- What Div answers: the quotient rounded down of the clamped numbers, and whether the second isn't nought. -/
def dv (a b : Int) : Int := if b = 0 then 0 else (cl a).fdiv (cl b)
def md (a b : Int) : Int := if b = 0 then 0 else (cl a).fmod (cl b)
def nz (b : Int) : Bool := !(b == 0)
theorem nz_t (b : Int) (h : ¬ b = 0) : nz b = true := by unfold nz; simp [h]
theorem nz_f (b : Int) (h : b = 0) : nz b = false := by unfold nz; simp [h]

end Go.Proofs.Ytcdcpmcjlchfgaa.Sc
