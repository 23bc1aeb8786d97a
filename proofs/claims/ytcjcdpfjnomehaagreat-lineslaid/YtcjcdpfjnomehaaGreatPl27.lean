/- What the statements of layer 10 are handed: a paragraph, a line, lines, as they lie in memory. -/
import Derived.Test.YtcjcdpfjnomehaaGreatPl23
import Derived.Test.YtcjcdpfjnomehaaGreatPl24
import Derived.Test.YtcjcdpfjnomehaaGreatPl26
import Derived.Test.YtcjcdpfjnomehaaGreatPl10
namespace Go.Proofs.YtcjcdpfjnomehaaGreat
set_option maxRecDepth 100000
set_option maxHeartbeats 40000000
open Go.RowKit Go.Deep
set_option linter.unusedSimpArgs false
set_option linter.unusedVariables false
def paraV (t:ByteArray) (ao:Option Addr) (n cap:Nat) (width:Int) (s:Stg):Value := .agg #[.string t,.slice ao n cap,.int .i64 width,.int .i64 s.t,.int .i64 s.l,.int .i64 s.a,.int .i64 s.d,.int .i64 s.z,.int .i64 s.o,.int .i64 s.i]
structure LneOk (x:Lne):Prop where
 tx:x.tx.size ≤ maxLen
 rn:x.rn ≤ maxLen ∧ x.rn ≤ x.rc
 num:I64 x.num
 den:I64 x.den
 h:I64 x.h
 y:I64 x.y
section
variable {H:Type} {enc:TypeId × Value → H} {W:World}
theorem para_value {fuel:Nat} {v:Value} {d:DataW H} {p:List MemPlace} (h:DataW.trod enc Tryz.prog W 0 (fun _ => true) true fuel 27 v.cells.toList = some (d,p)) :
  ∃ (t:ByteArray) (ao:Option Addr) (n cap:Nat) (width:Int) (s:Stg) (L Y:Nat → Int),v = paraV t ao n cap width s ∧ t.size ≤ maxLen ∧ (n ≤ maxLen ∧ n ≤ cap) ∧ It.RunsAt W ao n L Y ∧ I64 width ∧ I64 s.t ∧ I64 s.l ∧ I64 s.a ∧ I64 s.d ∧ I64 s.z ∧ I64 s.o ∧ I64 s.i := by
 obtain ⟨xs,nn,_,hx,hl,hlen,hf⟩ := DataW.trod_struct Tryz.underlying27 h
 have hcn:Tryz.prog.cellsOf 27 = 10 := by kernel_rfl
 rw [hcn] at hl
 have k3:Tryz.prog.cellsOf 3 = 1 := by kernel_rfl
 have k9:Tryz.prog.cellsOf 9 = 1 := by kernel_rfl
 have kr:Tryz.prog.cellsOf 23 = 1 := by kernel_rfl
 have ks:Tryz.prog.cellsOf 25 = 7 := by kernel_rfl
 generalize hcs:v.cells.toList = cs at *
 obtain ⟨c0,c1,c2,c3,c4,c5,c6,c7,c8,c9,rfl⟩:∃ c0 c1 c2 c3 c4 c5 c6 c7 c8 c9,cs = [c0,c1,c2,c3,c4,c5,c6,c7,c8,c9] := by
  match cs,hl with
  | [c0,c1,c2,c3,c4,c5,c6,c7,c8,c9],_ => exact ⟨c0,c1,c2,c3,c4,c5,c6,c7,c8,c9,rfl⟩
 obtain ⟨y0,y1,y2,y3,rfl⟩:∃ y0 y1 y2 y3,xs = [y0,y1,y2,y3] := by
  match xs,hlen with
  | [y0,y1,y2,y3],_ => exact ⟨y0,y1,y2,y3,rfl⟩
 have g0 := hf 0 _ rfl
 have g1 := hf 1 _ rfl
 have g2 := hf 2 _ rfl
 have g3 := hf 3 _ rfl
 simp [k3,k9,kr,ks] at g0 g1 g2 g3
 obtain ⟨b0,e0,x0,w0⟩ := DataW.trod_string Tryz.underlying9 g0
 obtain ⟨b2,e2,_,w2⟩ := DataW.trod_int Tryz.underlying3 g2
 injection e0 with e0
 injection e2 with e2
 subst e0;subst e2
 obtain ⟨x,e,hxx⟩ := open_sett g3
 unfold Stg.cells at e
 injection e with e3 e
 injection e with e4 e
 injection e with e5 e
 injection e with e6 e
 injection e with e7 e
 injection e with e8 e
 injection e with e9 e
 subst e3;subst e4;subst e5;subst e6;subst e7;subst e8;subst e9
 obtain ⟨ra,rn,rc,rfl⟩:∃ ra rn rc,c1 = .slice ra rn rc := by
  rcases open_slice Tryz.underlying23 g1 with ⟨hcs,_⟩ | ⟨a,l,c,m,n,D,Pl,hcs,_⟩
  ·injection hcs with hcs;exact ⟨_,_,_,hcs⟩
  ·injection hcs with hcs;exact ⟨_,_,_,hcs⟩
 obtain ⟨q1,L,Y,q2⟩ := It.open_runs g1
 refine ⟨b0,ra,rn,rc,b2,x,L,Y,?_,w0,⟨q1,Ru.open_cap g1⟩,q2,wf_i64 w2,hxx⟩
 cases v <;> simp [Value.cells] at hcs
 rename_i cs
 have e':cs = #[.string b0,.slice ra rn rc,.int .i64 b2,.int .i64 x.t,.int .i64 x.l,.int .i64 x.a,.int .i64 x.d,.int .i64 x.z,.int .i64 x.o,.int .i64 x.i] := Array.ext' hcs
 rw [e']
 rfl
end
end Go.Proofs.YtcjcdpfjnomehaaGreat
namespace Go.Proofs.YtcjcdpfjnomehaaGreat
set_option maxRecDepth 100000
set_option maxHeartbeats 40000000
open Go.RowKit
set_option linter.unusedSimpArgs false
set_option linter.unusedVariables false
def prc (t:ByteArray) (ao:Option Addr) (n cap:Nat) (width:Int) (s:Stg):Array Value := #[.string t,.slice ao n cap,.int .i64 width,.int .i64 s.t,.int .i64 s.l,.int .i64 s.a,.int .i64 s.d,.int .i64 s.z,.int .i64 s.o,.int .i64 s.i]
def PrcAt (w:World) (b:Nat) (t:ByteArray) (ao:Option Addr) (n cap:Nat) (width:Int) (s:Stg):Prop := w.cell? ⟨b,0,none⟩ = some (.string t) ∧ w.cell? ⟨b,1,none⟩ = some (.slice ao n cap) ∧ w.cell? ⟨b,2,none⟩ = some (.int .i64 width) ∧ w.cell? ⟨b,3,none⟩ = some (.int .i64 s.t) ∧ w.cell? ⟨b,4,none⟩ = some (.int .i64 s.l) ∧ w.cell? ⟨b,5,none⟩ = some (.int .i64 s.a) ∧ w.cell? ⟨b,6,none⟩ = some (.int .i64 s.d) ∧ w.cell? ⟨b,7,none⟩ = some (.int .i64 s.z) ∧ w.cell? ⟨b,8,none⟩ = some (.int .i64 s.o) ∧ w.cell? ⟨b,9,none⟩ = some (.int .i64 s.i)
theorem prc_at (w:World) (t:ByteArray) (ao:Option Addr) (n cap:Nat) (width:Int) (s:Stg):∃ W0,w.alloc (.cells #[.string t,.slice ao n cap,.int .i64 width,.int .i64 s.t,.int .i64 s.l,.int .i64 s.a,.int .i64 s.d,.int .i64 s.z,.int .i64 s.o,.int .i64 s.i] 27) = W0 ∧ Below w.heap.size w W0 ∧ w.heap.size ≠ W0.heap.size ∧ ∀ W,Below W0.heap.size W0 W → PrcAt W w.heap.size t ao n cap width s ∧ Below w.heap.size w W := by
 refine ⟨_,rfl,(Below.refl _ w).alloc (Nat.le_refl _) _,by simp,fun W hb => ⟨⟨kept_first hb 0,kept_first hb 1,kept_first hb 2,kept_first hb 3,kept_first hb 4,kept_first hb 5,kept_first hb 6,kept_first hb 7,kept_first hb 8,kept_first hb 9⟩,kept_below (Below.refl _ w) (Nat.le_refl _) hb⟩⟩
theorem few10_any (t:ByteArray) (ao:Option Addr) (n cap:Nat) (width:Int) (s:Stg) (w:World) (ht:t.size ≤ maxLen) (hn:n ≤ maxLen):Calls Tryz.prog 11 #[.agg #[.string t,.slice ao n cap,.int .i64 width,.int .i64 s.t,.int .i64 s.l,.int .i64 s.a,.int .i64 s.d,.int .i64 s.z,.int .i64 s.o,.int .i64 s.i]] w fun e w' => e = .returned (.bool (decide (t.size ≤ 400) && decide (n ≤ 100))) ∧ Below w.heap.size w w' := by
 unfold maxLen at ht hn
 by_cases h1:t.size ≤ 400
 ·have t1:decide ((t.size:Int) ≤ 400) = true := decide_eq_true (by omega)
  by_cases h2:n ≤ 100
  ·have t2:decide ((n:Int) ≤ 100) = true := decide_eq_true (by omega)
   go_enter Tryz.func11,Tryz.ntmps11
   go_wp2_with fail
   go_ret
   exact ⟨by simp [h1,h2],by go_grown⟩
  ·have t2:decide ((n:Int) ≤ 100) = false := decide_eq_false (by omega)
   go_enter Tryz.func11,Tryz.ntmps11
   go_wp2_with fail
   go_ret
   exact ⟨by simp [h1,h2],by go_grown⟩
 ·have t1:decide ((t.size:Int) ≤ 400) = false := decide_eq_false (by omega)
  go_enter Tryz.func11,Tryz.ntmps11
  go_wp2_with fail
  go_ret
  exact ⟨by simp [h1],by go_grown⟩
end Go.Proofs.YtcjcdpfjnomehaaGreat
