/-
  What the law's few answers.
-/
import Derived.Test.YteckbkcngkppmaaJs
namespace Go.Proofs.Yteckbkcngkppmaa
open Go.RowKit
set_option linter.unusedSimpArgs false
set_option linter.unusedVariables false

set_option maxRecDepth 100000 in
theorem few_any (t : ByteArray) (ht : t.size ≤ maxLen) (ao : Option Addr) (m cap : Nat) (hm : m ≤ maxLen) (w : World) : Calls Try.prog 10 #[.string t, .slice ao m cap] w fun e w' => e = .returned (.bool (decide (t.size ≤ 2000) && decide (m ≤ 200))) ∧ w' = w := by
  unfold maxLen at ht hm
  by_cases h1 : t.size ≤ 2000
  all_goals
    by_cases h2 : m ≤ 200
    all_goals
      have t1 : decide ((t.size : Int) ≤ 2000) = decide (t.size ≤ 2000) := by simp; omega
      have t2 : decide ((m : Int) ≤ 200) = decide (m ≤ 200) := by simp; omega
      simp only [h1, h2, decide_true, decide_false] at t1 t2 ⊢
      go_enter Try.func10, Try.ntmps10
      go_wp2
      go_ret
      exact ⟨by first | rfl | (simp; done), rfl⟩
end Go.Proofs.Yteckbkcngkppmaa
