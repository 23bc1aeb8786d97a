/-
  What the document's Build answers: the first fault, or the items of the text.
-/
import Derived.Deep.RegionWith
import Derived.Deep.DeepCutAuto
import Derived.Laws.OwnMore
import Derived.Test.YtcjcdpfjnomehaaGreatPk18
namespace Go.Proofs.YtcjcdpfjnomehaaGreat.It
open Go.RowKit
set_option linter.unusedSimpArgs false
set_option linter.unusedVariables false
def wo (p : List Itm × Int) : Int := if lbox p.1 = true then p.2 else -1
end Go.Proofs.YtcjcdpfjnomehaaGreat.It
