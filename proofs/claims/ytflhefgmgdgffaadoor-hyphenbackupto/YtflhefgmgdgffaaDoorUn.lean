/-
  What the document's Right answers for every text of at most 1048576 bytes, and Between and Boundary for every place of a right one.
-/
import Derived.Test.YtflhefgmgdgffaaDoorUm
namespace Go.Proofs.YtflhefgmgdgffaaDoor
open Go.RowKit
set_option linter.unusedSimpArgs false
set_option linter.unusedVariables false

set_option maxRecDepth 100000 in
theorem refright_any (s : ByteArray) (w : World) (hs : s.size ≤ 1048576) (N : Nat) (hN : Cnt s N) :
    Calls Tryd.prog 6 #[.string s] w fun e w' => e = .returned (.bool (decide (badAt s N < 0))) ∧ Below w.heap.size w w' := by
  have hru := runes_any s w hs N hN
  generalize badAt s N = B at *
  go_enter Tryd.func6, Tryd.ntmps6
  go_wp2_with fail
  refine hru.mono ?_
  rintro e w1 ⟨p1, c1, p2, c2, rfl, -, -, hb⟩
  have HB := boxed hb
  clear hb hru
  go_wp2
  go_ret
  exact ⟨rfl, HB.out⟩

/-- Does a place lie between runes? -/
def btw (s : ByteArray) (N : Nat) (a : Int) : Bool := decide (∃ j, j < N ∧ (it s j : Int) = a) || (a == (s.size : Int))


end Go.Proofs.YtflhefgmgdgffaaDoor
