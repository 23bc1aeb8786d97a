/- What the program's Copy does. -/
import Derived.Deep.RegionHeld3
import Derived.Deep.AppendLies
import Derived.Test.YtcjcdpfjnomehaaGreatPl22
namespace Go.Proofs.YtcjcdpfjnomehaaGreat.Ru
set_option maxRecDepth 100000
set_option maxHeartbeats 40000000
open Go.RowKit
set_option linter.unusedSimpArgs false
set_option linter.unusedVariables false
theorem step_append_own {P:Program} {w:World} {ops:Array Oper} {o:Oper} {a:Act} {K:Act → World → Prop} {Q:Exit → Act → World → Prop} {E:Prop} (hgd:o.guard = none) (s x:Operand) (t:TypeId)
  (ho:o.op = .call { callee := .builtin .append,args := #[s,x],argTypes := #[t,t] })
  (base:Nat) (e:TypeId) (i:TypeInfo) (z:Value) (size bytes:Nat) (ht:P.underlying t = some (.slice e)) (hi:P.info? e = some i) (hz:i.zero = some z)
  (hsize:i.size = size) (hby:i.bytes = bytes) (hzs:z.cells.size = size) (hsz:0 < size)
  (v:Value) (n:Nat) (xs:List Value) (hs:a.eval s = v) (hown:w.ownsRow base e size v n xs)
  (ad:Addr) (m c:Nat) (news:List Value) (hx:a.eval x = .slice (some ad) m c) (hl:news.length = m * size) (hnews:∀ j u,news[j]? = some u → w.cell? (ad.add j) = some u) (h1:∀ u ∈ news,u.oneCell' = true)
  (h63:n + m ≤ maxLen) (hbytes:(n + m) * bytes ≤ 140737488355328) (hbase:base ≤ w.heap.size)
  (h:∀ v' w',w'.ownsRow base e size v' (n + m) (xs ++ news) → w.grownBy w' v.ownBlock → K (a.put o.dst v') w') :
  if Region.wanted o (yielded ops a.tmps) = true then Oper.wp P o a w K Q else E := by
 have hw:Region.wanted o (yielded ops a.tmps) = true := by simp [Region.wanted,hgd]
 rw [if_pos hw]
 exact wp_append_own w s x t ho base e i z size bytes ht hi hz hsize hby hzs hsz v n xs hs hown ad m c news hx hl hnews h1 h63 hbytes hbase fun v' w' h2 h3 _ => h v' w' h2 h3
def CpyP (s:List Int) (bare:Int) (w:World) (e:Ending) (w':World):Prop :=
 ∃ lc ac cc,e = .returned (.pointer (some ⟨lc,0,none⟩)) ∧ w.heap.size ≤ lc ∧ ListAt w' lc ac cc s bare ∧ PartsAt (fun b => w.heap.size ≤ b) w' ac s ∧ Below w.heap.size w w'
theorem CpyP.drew {s:List Int} {bare:Int} {w w':World} {e:Ending} (h:CpyP s bare w e w'):CpyP s bare w e w'.drew := by
 obtain ⟨lc,ac,cc,h1,h2,h3,h4,h5⟩ := h
 exact ⟨lc,ac,cc,h1,h2,h3.below (Below.refl _ _).drew,h4.below (Below.refl _ _).drew,h5.drew⟩
theorem own_shape {w:World} {base size n:Nat} {e:TypeId} {v:Value} {xs:List Value} (h:w.ownsRow base e size v n xs):∃ ao cap,v = .slice ao n cap := by
 rcases ownsRow_forms h with ⟨g1,g2⟩ | ⟨g,cap,g1⟩
 ·exact ⟨none,0,by rw [g2];exact g1⟩
 ·exact ⟨_,_,g1⟩
end Go.Proofs.YtcjcdpfjnomehaaGreat.Ru
