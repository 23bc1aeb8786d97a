/-
  What the texts on items and lines stand on: facts kept from the walk, worlds that grow, blocks that S names; what the program's Sub answers.
-/
import Derived.Test.YtkmeeblkckfepabGreatRa
import Derived.Test.YtkmeeblkckfepabGreatG
import Derived.WalkMore
import Derived.Laws.RangeAny
import Derived.Deep.QuietTactic
import Derived.BigQuiet
import Derived.Handy
namespace Go.Proofs.YtkmeeblkckfepabGreat
open Go.RowKit
set_option linter.unusedSimpArgs false
set_option linter.unusedVariables false

theorem boxed {p : Prop} (h : p) : Box p := ⟨h⟩
theorem hold {w w' : World} {a : Addr} {v : Value} (hb : Below w.heap.size w w') (h : w.cell? a = some v) : w'.cell? a = some v := by
  rw [hb.cell (World.block_lt_of_cell? w _ h)]; exact h
theorem below_step {B : Nat} {w w1 w2 : World} (h1 : Below B w w1) (hB : B ≤ w.heap.size) (h2 : Below w1.heap.size w1 w2) : Below B w w2 :=
  h1.trans (h2.mono (Nat.le_trans hB h1.size))
def I64 (n : Int) : Prop := -9223372036854775808 ≤ n ∧ n ≤ 9223372036854775807
/-- What S names, if it is there, is there still, and named. -/
def Kp (S S' : Nat → Prop) (w w' : World) : Prop := ∀ b i u, S b → w.cell? ⟨b, i, none⟩ = some u → S' b ∧ w'.cell? ⟨b, i, none⟩ = some u
theorem kp_below {S : Nat → Prop} {w w' : World} (h : Below w.heap.size w w') : Kp S S w w' := fun b i u hs hc => ⟨hs, hold h hc⟩
theorem cell_first (w : World) (cs : Array Value) (t : TypeId) (i : Nat) : (w.alloc (.cells cs t)).cell? ⟨w.heap.size, i, none⟩ = cs[i]? := by
  rw [cell_of_row _ _ _ _ _ _ (heap_alloc_new w (.cells cs t))]
end Go.Proofs.YtkmeeblkckfepabGreat
