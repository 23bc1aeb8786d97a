/-
  What the program's tree.size and newTree answer.
-/
import Derived.Test.YtflhefgmgdgffabHyg
namespace Go.Proofs.Ytflhefgmgdgffab
open Go.RowKit Go.Maps
set_option linter.unusedSimpArgs false
set_option linter.unusedVariables false

set_option maxRecDepth 100000 in
theorem size17_any (w : World) (eb : Nat) (lv : Value) (n : Nat) (R : Value → Value → Prop) (h : MapR Try.prog 72 w eb n R) (hn : n ≤ 1000000) :
    Calls Try.prog 14 #[.agg #[.map (some eb), lv]] w fun e w' => e = .returned (.int .i64 ((n : Int) + 1)) ∧ Below w.heap.size w w' := by
  have l1 := laid1 w (.cells #[.map (some eb), lv] 46)
  have hm := h.keep (l1.2.1.block eb h.lt)
  have hlen := hm.len Try.underlying43 3
  have HB := boxed l1.2.1
  clear l1 h hm
  go_enter Try.func14, Try.ntmps14
  go_wp2_with fail
  go_ret
  exact ⟨rfl, HB.out⟩
end Go.Proofs.Ytflhefgmgdgffab
