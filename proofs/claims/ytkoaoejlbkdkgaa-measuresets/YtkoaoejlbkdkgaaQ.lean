/-
  What math/bits.Div64 answers where the upper word is less than the divisor, the divisor at most 2 to the 60: quotient and rest of the two words.
-/
import Derived.Test.YtkoaoejlbkdkgaaB
import Derived.Test.YtkoaoejlbkdkgaaK
import Derived.Test.YtkoaoejlbkdkgaaM
namespace Go.Proofs.Ytkoaoejlbkdkgaa
open Go.RowKit
set_option linter.unusedSimpArgs false
set_option linter.unusedVariables false

/-- A fact kept from the walk, and from every look that lays definitions open. -/
structure Box (p : Prop) : Prop where
  out : p
theorem hidq {p : Prop} (h : p) : Box p := ⟨h⟩

theorem ret_two {k k' : IntKind} {a b c d : Int} (h1 : a = c) (h2 : b = d) : Ending.returned (.tuple #[.int k a, .int k' b]) = .returned (.tuple #[.int k c, .int k' d]) := by rw [h1, h2]

end Go.Proofs.Ytkoaoejlbkdkgaa
