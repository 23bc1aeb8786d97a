/-
  The page's example: awake answers true.
-/
import Derived.Test.YtmnnmnggakbipaaQz
import Derived.Test.YtmnnmnggakbipaaSc
namespace Go.Proofs.Ytmnnmnggakbipaa
open Go.RowKit

theorem awake_any (w : World) : Calls Try.prog 9 #[] w fun r w' => r = .returned (.bool true) ∧ Below w.heap.size w w' :=
  awake_of (fun w ao N lc0 O h hN => played_any w 2 ao N lc0 O h hN (by omega)) w
end Go.Proofs.Ytmnnmnggakbipaa
