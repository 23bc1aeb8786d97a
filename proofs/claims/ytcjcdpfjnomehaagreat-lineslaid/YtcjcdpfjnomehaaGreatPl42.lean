/- What the program's Same and the document's tell of two lines. -/
import Derived.Deep.CutRange
import Derived.Deep.DeepCutAuto
import Derived.Test.YtcjcdpfjnomehaaGreatPl23
import Derived.Test.YtcjcdpfjnomehaaGreatPl22
namespace Go.Proofs.YtcjcdpfjnomehaaGreat
set_option maxRecDepth 100000
set_option maxHeartbeats 40000000
open Go.RowKit
set_option linter.unusedSimpArgs false
set_option linter.unusedVariables false
def lnB (x y:Lne):Bool := (x.num == y.num && x.den == y.den) && (x.h == y.h && x.y == y.y) && (x.hy == y.hy && x.bg == y.bg && x.en == y.en) && (x.tx.toList == y.tx.toList)
section
variable {w:World}
theorem refsame10_any (S S':Nat → Prop) (x y:Lne) (hx:Ru.P2At S w x.ra x.rn x.L x.Y) (hy:Ru.P2At S' w y.ra y.rn y.L y.Y) (hxn:x.rn ≤ 1048576) :
  Calls Tryz.prog 33 #[x.val,y.val] w fun e w' => ∃ r,e = .returned (.bool r) ∧ (r = true ↔ lnB x y = true ∧ x.rn = y.rn ∧ ∀ i,i < x.rn → x.L i = y.L i ∧ x.Y i = y.Y i) ∧ Below w.heap.size w w' := by
 unfold Lne.val
 have HS := boxed (fun W (hb:Below w.heap.size w W) => Ru.rsame_any S S' W x.ra y.ra x.rn y.rn x.rc y.rc x.L x.Y y.L y.Y (hx.below hb) (hy.below hb) hxn)
 have HL := boxed (show lnB x y = ((x.num == y.num && x.den == y.den) && (x.h == y.h && x.y == y.y) && (x.hy == y.hy && x.bg == y.bg && x.en == y.en) && (x.tx.toList == y.tx.toList)) from rfl)
 generalize lnB x y = V at *
 clear hx hy hxn
 obtain ⟨D,hD⟩:∃ D:Prop,(x.rn = y.rn ∧ ∀ i,i < x.rn → x.L i = y.L i ∧ x.Y i = y.Y i) = D := ⟨_,rfl⟩
 rw [hD] at HS ⊢
 clear hD
 obtain ⟨x1,x2,x3,x4,x5,x6,x7,x8,x9,xa,xb,xc,xd⟩ := x
 obtain ⟨y1,y2,y3,y4,y5,y6,y7,y8,y9,ya,yb,yc,yd⟩ := y
 simp only at HS HL ⊢
 clear xc xd yc yd
 go_enter Tryz.func33,Tryz.ntmps33
 go_wp2_with fail
 all_goals first
  | (go_ret;exact ⟨_,rfl,by rw [HL.out];simp [*],by go_grown⟩)
  | (refine (HS.out _ (by go_grown)).mono ?_;rintro e w1 ⟨r,rfl,hr,hb1⟩;have HF := boxed (And.intro hr (below_step (B := w.heap.size) (w := w) (by go_grown) (Nat.le_refl _) hb1));clear hr hb1 HS;go_wp2_with fail;go_ret;exact ⟨r,rfl,by rw [HL.out,HF.out.1];simp [*],HF.out.2⟩)
end
end Go.Proofs.YtcjcdpfjnomehaaGreat
namespace Go.Proofs.YtcjcdpfjnomehaaGreat
set_option maxRecDepth 100000
set_option maxHeartbeats 40000000
open Go.RowKit
set_option linter.unusedSimpArgs false
set_option linter.unusedVariables false
def LnEq (x y:Lne):Prop := lnB x y = true ∧ x.rn = y.rn ∧ ∀ i,i < x.rn → x.L i = y.L i ∧ x.Y i = y.Y i
theorem laid_same {I:Nat → Itm} {n:Nat} {bs:List Nat} {t:ByteArray} {s:List Int} {F:Nat → It.Sty} {ns:Nat} {width:Int} {i:Nat} {x y:Lne} (h:Laid I n bs t s F ns width i x) (g:Laid I n bs t s F ns width i y):LnEq x y := by
 refine ⟨?_,by rw [h.rn,g.rn],fun j hj => ⟨by rw [h.L j hj,g.L j (by rw [g.rn,← h.rn];exact hj)],by rw [h.Y j hj,g.Y j (by rw [g.rn,← h.rn];exact hj)]⟩⟩
 unfold lnB
 rw [h.num,h.den,h.h,h.y,h.hy,h.bg,h.en,h.tx,g.num,g.den,g.h,g.y,g.hy,g.bg,g.en,g.tx]
 simp
theorem laid_rn {I:Nat → Itm} {n:Nat} {bs:List Nat} {t:ByteArray} {s:List Int} {F:Nat → It.Sty} {ns:Nat} {width:Int} {i:Nat} {x:Lne} (h:Laid I n bs t s F ns width i x):x.rn ≤ s.length := by
 rw [h.rn]
 have h1 := Ru.enc_len (Ru.sub s (lnF I n bs t.size i) (lnC I n bs t.size i))
 have h2:(Ru.sub s (lnF I n bs t.size i) (lnC I n bs t.size i)).length ≤ s.length := by unfold Ru.sub;simp;omega
 omega
section
variable {w:World}
theorem alike_any (S S':Nat → Prop) (ao bo:Option Addr) (n ca cb:Nat) (A B:Nat → Lne) (ha:LnsAt S w ao n A) (hb:LnsAt S' w bo n B) (he:∀ i,i < n → LnEq (A i) (B i) ∧ (A i).rn ≤ 1048576) (hn:n ≤ 262144) :
  Calls Tryz.prog 21 #[.slice ao n ca,.slice bo n cb] w fun e w' => e = .returned (.bool true) ∧ Below w.heap.size w w' := by
 have HA := boxed ha
 have HB := boxed hb
 have HE := boxed he
 have t0:((n:Int) != (n:Int)) = false := by simp
 clear ha hb he
 go_enter Tryz.func21,Tryz.ntmps21
 go_wp2_with fail
 go_loopw [5] (fun vi wr => ∃ i:Nat,i ≤ n ∧ vi = .int .i64 (i:Nat) ∧ Box (Below w.heap.size w wr)) (fun vi _ => n - (intOf vi).toNat)
 case atStart => exact ⟨0,Nat.zero_le _,rfl,boxed (Below.refl _ _)⟩
 case round =>
  obtain ⟨i,hin,rfl,HI⟩ := hrel
  by_cases hlt:i < n
  ·obtain ⟨pa,ab,aoff,ea,-,a0,a1,a2,a3,a4,a5,a6,a7,a8⟩ := (HA.out.below HI.out) i hlt
   obtain ⟨pb,bb,boff,eb,-,b0,b1,b2,b3,b4,b5,b6,b7,b8⟩ := (HB.out.below HI.out) i hlt
   obtain ⟨h1,h2⟩ := HE.out i hlt
   have HS := boxed (fun W (hb:Below wr.heap.size wr W) => refsame10_any S S' (A i) (B i) (pa.below hb) (pb.below hb) h2)
   have H1 := boxed h1
   subst ea
   subst eb
   have hlt2:(i:Int) < (n:Int) := by omega
   unfold Lne.val at HS
   clear pa pb h1 h2
   generalize A i = x at *
   generalize B i = y at *
   have HD:Box (Below wr.heap.size wr wr.drew) := boxed (Below.refl _ _).drew
   have HX:Box (∀ W,Below wr.heap.size wr W → W.cell? ⟨ab,aoff + i * 9,none⟩ = some (.string x.tx) ∧ W.cell? ⟨ab,aoff + i * 9 + 1,none⟩ = some (.slice x.ra x.rn x.rc) ∧ W.cell? ⟨ab,aoff + i * 9 + 2,none⟩ = some (.int .i64 x.num) ∧ W.cell? ⟨ab,aoff + i * 9 + 3,none⟩ = some (.int .i64 x.den) ∧ W.cell? ⟨ab,aoff + i * 9 + 4,none⟩ = some (.int .i64 x.h) ∧ W.cell? ⟨ab,aoff + i * 9 + 5,none⟩ = some (.bool x.hy) ∧ W.cell? ⟨ab,aoff + i * 9 + 6,none⟩ = some (.int .i64 x.y) ∧ W.cell? ⟨ab,aoff + i * 9 + 7,none⟩ = some (.bool x.bg) ∧ W.cell? ⟨ab,aoff + i * 9 + 8,none⟩ = some (.bool x.en) ∧ W.cell? ⟨bb,boff + i * 9,none⟩ = some (.string y.tx) ∧ W.cell? ⟨bb,boff + i * 9 + 1,none⟩ = some (.slice y.ra y.rn y.rc) ∧ W.cell? ⟨bb,boff + i * 9 + 2,none⟩ = some (.int .i64 y.num) ∧ W.cell? ⟨bb,boff + i * 9 + 3,none⟩ = some (.int .i64 y.den) ∧ W.cell? ⟨bb,boff + i * 9 + 4,none⟩ = some (.int .i64 y.h) ∧ W.cell? ⟨bb,boff + i * 9 + 5,none⟩ = some (.bool y.hy) ∧ W.cell? ⟨bb,boff + i * 9 + 6,none⟩ = some (.int .i64 y.y) ∧ W.cell? ⟨bb,boff + i * 9 + 7,none⟩ = some (.bool y.bg) ∧ W.cell? ⟨bb,boff + i * 9 + 8,none⟩ = some (.bool y.en)) := boxed (fun W hb => ⟨hold hb a0,hold hb a1,hold hb a2,hold hb a3,hold hb a4,hold hb a5,hold hb a6,hold hb a7,hold hb a8,hold hb b0,hold hb b1,hold hb b2,hold hb b3,hold hb b4,hold hb b5,hold hb b6,hold hb b7,hold hb b8⟩)
   clear a0 a1 a2 a3 a4 a5 a6 a7 a8 b0 b1 b2 b3 b4 b5 b6 b7 b8
   go_wp2_with fail
   go_region_held3 (fun W => W.cell? ⟨ab,aoff + i * 9,none⟩ = some (.string x.tx) ∧ W.cell? ⟨ab,aoff + i * 9 + 1,none⟩ = some (.slice x.ra x.rn x.rc) ∧ W.cell? ⟨ab,aoff + i * 9 + 2,none⟩ = some (.int .i64 x.num) ∧ W.cell? ⟨ab,aoff + i * 9 + 3,none⟩ = some (.int .i64 x.den) ∧ W.cell? ⟨ab,aoff + i * 9 + 4,none⟩ = some (.int .i64 x.h) ∧ W.cell? ⟨ab,aoff + i * 9 + 5,none⟩ = some (.bool x.hy) ∧ W.cell? ⟨ab,aoff + i * 9 + 6,none⟩ = some (.int .i64 x.y) ∧ W.cell? ⟨ab,aoff + i * 9 + 7,none⟩ = some (.bool x.bg) ∧ W.cell? ⟨ab,aoff + i * 9 + 8,none⟩ = some (.bool x.en) ∧ W.cell? ⟨bb,boff + i * 9,none⟩ = some (.string y.tx) ∧ W.cell? ⟨bb,boff + i * 9 + 1,none⟩ = some (.slice y.ra y.rn y.rc) ∧ W.cell? ⟨bb,boff + i * 9 + 2,none⟩ = some (.int .i64 y.num) ∧ W.cell? ⟨bb,boff + i * 9 + 3,none⟩ = some (.int .i64 y.den) ∧ W.cell? ⟨bb,boff + i * 9 + 4,none⟩ = some (.int .i64 y.h) ∧ W.cell? ⟨bb,boff + i * 9 + 5,none⟩ = some (.bool y.hy) ∧ W.cell? ⟨bb,boff + i * 9 + 6,none⟩ = some (.int .i64 y.y) ∧ W.cell? ⟨bb,boff + i * 9 + 7,none⟩ = some (.bool y.bg) ∧ W.cell? ⟨bb,boff + i * 9 + 8,none⟩ = some (.bool y.en))
    (first | with_reducible exact HX.out _ HD.out | with_reducible exact HX.out _ HB2.out)
    (first | (go_at_call 33;refine (HS.out _ HD.out).mono ?_;rintro e w2 ⟨r,rfl,hr,hb2⟩;obtain rfl:r = true := hr.2 H1.out;have HB2 := boxed (below_step HD.out (Nat.le_refl _) hb2);clear hb2 hr))
   have HF := boxed (HI.out.trans (HB2.out.mono HI.out.size))
   clear HX HS
   go_wp2_with fail
   go_roundw
   case rel => exact ⟨i + 1,by omega,by go_num,HF⟩
   case measure => simp [intOf];omega
  ·obtain rfl:n = i := by omega
   go_wp2
   go_ret
   exact ⟨rfl,HI.out⟩
end
end Go.Proofs.YtcjcdpfjnomehaaGreat
