/-
  Two indexes that lie apart.
-/
import Derived.Test.YtholifolkimkdabGu
namespace Go.Proofs.Ytholifolkimkdab
open Go.RowKit
set_option linter.unusedSimpArgs false
set_option linter.unusedVariables false

theorem NAt.blocks {S T : Nat → Prop} {W W0 : World} {a : Option Addr} {L : List Nat} (h : NAt S W a L) (k : NAt T W0 a L) : NAt T W a L := by
  intro i hi
  obtain ⟨b, e, hs, c⟩ := h i hi
  obtain ⟨b', e', ht, -⟩ := k i hi
  rw [e] at e'
  injection e' with e'
  injection e' with e1
  subst e1
  exact ⟨b, e, ht, c⟩
theorem NAt.imp {S T : Nat → Prop} {W : World} {a : Option Addr} {L : List Nat} (h : NAt S W a L) (k : ∀ b, S b → T b) : NAt T W a L := h.keep (fun b i u hs hc => ⟨k b hs, hc⟩)
theorem IxAt.apart {W W' : World} {xb rb : Nat} {a : Option Addr} {c : Nat} {P : List Nat} {o : Bool} (h : IxAt W xb a c P o) (hn : NAt (fun b => b ≠ rb) W a (ens 0 P)) (hg : W.grownBy W' (some rb)) (hx : rb ≠ xb) : IxAt W' xb a c P o :=
  ⟨by rw [hg.block xb h.lt (fun e => by injection e with e; exact hx e.symm)]; exact h.blk, (hn.keep (kp_grown hg (fun b hb => hb))).blocks h.pts, h.pos, h.len, h.cap⟩
/-- A step of the one leaves the other. -/
theorem two_steps {w3 w4 w5 wq w6 : World} {xb cb : Nat} {ao a5 : Option Addr} {cap c5 : Nat} {l l5 : List Bool}
    (hx3 : TxAt w3 xb ao cap l) (hb4 : Below w3.heap.size w3 w4) (hcb : w3.heap.size ≤ cb) (hcl : cb < w4.heap.size)
    (hd : (a5 = ao ∧ c5 = cap ∧ l5 = l) ∨ NAt (fun b => w4.heap.size ≤ b) w5 a5 (ens 0 (sp l5))) (hx5 : TxAt w5 xb a5 c5 l5) (hbq : Below w5.heap.size w5 wq) (hg6 : wq.grownBy w6 (some cb)) : TxAt w6 xb a5 c5 l5 := by
  have hlt := hx3.lt
  have hxq := hx5.below hbq
  refine IxAt.apart hxq ?_ hg6 (by omega)
  rcases hd with ⟨rfl, rfl, rfl⟩ | hd
  · exact hxq.pts.blocks ((hx3.pts.early (Nat.le_refl _)).imp (fun b hb => by omega))
  · exact hxq.pts.blocks (hd.imp (fun b hb => by omega))
end Go.Proofs.Ytholifolkimkdab
