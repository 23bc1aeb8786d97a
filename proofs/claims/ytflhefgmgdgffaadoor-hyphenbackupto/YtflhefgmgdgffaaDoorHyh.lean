/-
  What the program's tree.size and newTree answer.
-/
import Derived.Test.YtflhefgmgdgffaaDoorHyg
namespace Go.Proofs.YtflhefgmgdgffaaDoor
open Go.RowKit Go.Maps
set_option linter.unusedSimpArgs false
set_option linter.unusedVariables false

set_option maxRecDepth 100000 in
theorem size17_any (w : World) (eb : Nat) (lv : Value) (n : Nat) (R : Value → Value → Prop) (h : MapR Tryd.prog 96 w eb n R) (hn : n ≤ 1000000) :
    Calls Tryd.prog 25 #[.agg #[.map (some eb), lv]] w fun e w' => e = .returned (.int .i64 ((n : Int) + 1)) ∧ Below w.heap.size w w' := by
  have l1 := laid1 w (.cells #[.map (some eb), lv] 62)
  have hm := h.keep (l1.2.1.block eb h.lt)
  have hlen := hm.len Tryd.underlying59 3
  have HB := boxed l1.2.1
  clear l1 h hm
  go_enter Tryd.func25, Tryd.ntmps25
  go_wp2_with fail
  go_ret
  exact ⟨rfl, HB.out⟩
end Go.Proofs.YtflhefgmgdgffaaDoor
