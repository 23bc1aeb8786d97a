/- Runs that are handed in: their reading with the capacity; both ways of telling them apart agree. -/
import Derived.Deep.Slices
import Derived.SizedLaws
import Derived.OpenShut
import Derived.Test.YtcjcdpfjnomehaaGreatPl25
namespace Go.Proofs.YtcjcdpfjnomehaaGreat.Ru
set_option maxRecDepth 100000
set_option maxHeartbeats 40000000
open Go.RowKit Go.Deep
set_option linter.unusedSimpArgs false
set_option linter.unusedVariables false
section
variable {H:Type} {enc:TypeId × Value → H} {W:World}
theorem open_cap {fuel:Nat} {ao:Option Addr} {len cap:Nat} {d:DataW H} {p:List MemPlace} (h:DataW.trod enc Tryz.prog W 0 (fun _ => true) true fuel 23 [.slice ao len cap] = some (d,p)):len ≤ cap := by
 rcases open_slice Tryz.underlying23 h with ⟨hcs,_⟩ | ⟨a,l,c,m,n,D,Pl,hcs,_,hl,hml,hm,hx,hel⟩
 ·injection hcs with hcs
  injection hcs with e1 e2 e3
  omega
 ·injection hcs with hcs
  injection hcs with e1 e2 e3
  omega
end
end Go.Proofs.YtcjcdpfjnomehaaGreat.Ru
