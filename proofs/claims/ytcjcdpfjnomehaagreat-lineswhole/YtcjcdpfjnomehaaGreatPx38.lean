/-
  What the program's Same and the document's tell of two lines.
-/
import Derived.Deep.CutRange
import Derived.Deep.DeepCutAuto
import Derived.Test.YtcjcdpfjnomehaaGreatPx22
import Derived.Test.YtcjcdpfjnomehaaGreatPx21
namespace Go.Proofs.YtcjcdpfjnomehaaGreat
open Go.RowKit
set_option linter.unusedSimpArgs false
set_option linter.unusedVariables false
def lnB (x y : Lne) : Bool := (x.num == y.num && x.den == y.den) && (x.h == y.h && x.y == y.y) && (x.hy == y.hy && x.bg == y.bg && x.en == y.en) && (x.tx.toList == y.tx.toList)
section
variable {w : World}
end
end Go.Proofs.YtcjcdpfjnomehaaGreat

/-
  What the document's Alike tells of lines that have the same.
-/
namespace Go.Proofs.YtcjcdpfjnomehaaGreat
open Go.RowKit
set_option linter.unusedSimpArgs false
set_option linter.unusedVariables false
def LnEq (x y : Lne) : Prop := lnB x y = true ∧ x.rn = y.rn ∧ ∀ i, i < x.rn → x.L i = y.L i ∧ x.Y i = y.Y i
section
variable {w : World}
end
end Go.Proofs.YtcjcdpfjnomehaaGreat
