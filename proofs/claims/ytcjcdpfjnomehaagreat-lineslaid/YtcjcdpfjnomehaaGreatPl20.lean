/- Items of a text as the items that lines are made of, and where each line of a way begins and ends, in plain words. No -/
import Derived.Test.YtcjcdpfjnomehaaGreatPl11
import Derived.Test.YtcjcdpfjnomehaaGreatPl19
namespace Go.Proofs.YtcjcdpfjnomehaaGreat
set_option maxRecDepth 100000
set_option maxHeartbeats 40000000
set_option linter.unusedSimpArgs false
set_option linter.unusedVariables false
def toI (x:It.Itm):Itm := ⟨x.k,x.w,x.st,x.sh,x.fill,x.c,x.flag,x.fr,x.to⟩
theorem toI_ics (L:List It.Itm):ics (L.map toI) = It.ics L := by
 induction L with
 | nil => rfl
 | cons x r ih =>
  have e1:ics ((x :: r).map toI) = (toI x).cells ++ ics (r.map toI) := by simp [ics]
  have e2:It.ics (x :: r) = x.cells ++ It.ics r := by simp [It.ics]
  rw [e1,e2,ih];rfl
theorem toI_nth (L:List It.Itm) (i:Nat):nth (L.map toI) i = toI (It.nth L i) := by
 simp only [nth,It.nth,List.getD_eq_getElem?_getD,List.getElem?_map]
 cases L[i]? <;> rfl
theorem toI_nth' (L:List It.Itm):nth (L.map toI) = fun i => toI (It.nth L i) := funext (toI_nth L)
theorem toI_rgt (I:Nat → It.Itm) (n:Nat):rgt (fun i => toI (I i)) n = It.rgt I n := rfl
structure WB (n:Nat) (bs:List Nat):Prop where
 pos:0 < bs.length
 lt:∀ i,i < bs.length → bs.getD i 0 < n
 rise:∀ i,i + 1 < bs.length → bs.getD i 0 < bs.getD (i + 1) 0
structure Chn (I:Nat → Itm) (n sz:Nat):Prop where
 pos:0 < n
 le:n ≤ 262144
 ok:∀ i,i < n → okI I i = true
 fo:forc (I (n - 1)) = true
 end_:(I (n - 1)).to = (sz:Int)
theorem okI_places (I:Nat → Itm) (i:Nat) (h:okI I i = true):(I i).fr = pto I i ∧ (I i).fr ≤ (I i).to ∧ (I i).to ≤ 65536 := by
 unfold okI at h
 simp only [Bool.and_eq_true,beq_iff_eq,decide_eq_true_eq] at h
 exact ⟨h.1.1.1.1,h.1.1.1.2,h.1.1.2⟩
theorem Chn.mono {I : Nat → Itm} {n sz : Nat} (h : Chn I n sz) (j k : Nat) (hjk : j ≤ k) (hk : k < n) : 0 ≤ (I j).fr ∧ (I j).fr ≤ (I k).fr := by
  have h0 : ∀ k, k < n → 0 ≤ (I k).fr := by
    intro k
    induction k with
    | zero => intro hk; have := (okI_places I 0 (h.ok 0 hk)).1; unfold pto at this; simp at this; omega
    | succ k ih =>
      intro hk
      have h1 := (okI_places I (k + 1) (h.ok _ hk)).1
      have h2 := (okI_places I k (h.ok _ (by omega))).2.1
      have h3 := ih (by omega)
      unfold pto at h1
      rw [if_neg (by omega)] at h1
      simp only [Nat.add_sub_cancel] at h1
      omega
  refine ⟨h0 j (by omega), ?_⟩
  induction k with
  | zero => obtain rfl : j = 0 := by omega
            exact Int.le_refl _
  | succ k ih =>
    by_cases c : j = k + 1
    · subst c; exact Int.le_refl _
    · have h1 := (okI_places I (k + 1) (h.ok _ hk)).1
      have h2 := (okI_places I k (h.ok _ (by omega))).2.1
      have h3 := ih (by omega) (by omega)
      unfold pto at h1
      rw [if_neg (by omega)] at h1
      simp only [Nat.add_sub_cancel] at h1
      omega
theorem Chn.most {I:Nat → Itm} {n sz:Nat} (h:Chn I n sz) (k:Nat) (hk:k < n):0 ≤ (I k).fr ∧ (I k).fr ≤ (sz:Int) := by
 have h1 := h.mono k (n - 1) (by omega) (by have := h.pos;omega)
 have h2 := (okI_places I (n - 1) (h.ok _ (by have := h.pos;omega))).2.1
 have h3 := h.end_
 omega
theorem Chn.size {I:Nat → Itm} {n sz:Nat} (h:Chn I n sz):sz ≤ 65536 := by
 have h2 := (okI_places I (n - 1) (h.ok _ (by have := h.pos;omega))).2.2
 have h3 := h.end_
 omega
section
variable (I:Nat → Itm) (n:Nat) (bs:List Nat) (sz:Nat)
def lnK (i:Nat):Nat := min (sta I n (bs.getD i 0:Nat)) (bs.getD (i + 1) 0)
def lnC (i:Nat):Nat := if i + 1 < bs.length then (I (lnK I n bs i)).fr.toNat else sz
def lnF (i:Nat):Nat := if i = 0 then 0 else lnC I n bs sz (i - 1)
def lnA (i:Nat):Int := if i = 0 then -1 else (bs.getD (i - 1) 0:Nat)
end
section
variable {I:Nat → Itm} {n:Nat} {bs:List Nat} {sz:Nat}
theorem lnK_in (hw:WB n bs) (i:Nat) (hi:i + 1 < bs.length):bs.getD i 0 < lnK I n bs i ∧ lnK I n bs i ≤ bs.getD (i + 1) 0 ∧ lnK I n bs i < n := by
 have h1 := hw.lt i (by omega)
 have h2 := hw.lt (i + 1) hi
 have h3 := hw.rise i hi
 have h4 := nxt_le I n (bs.getD i 0) h1
 have h5:sta I n (bs.getD i 0:Nat) = nxt I n (bs.getD i 0) := by
  unfold sta
  rw [if_neg (by omega),if_pos (by omega)];simp
 unfold lnK
 rw [h5]
 omega
theorem lnC_cut (hw:WB n bs) (hc:Chn I n sz) (i:Nat) (hi:i + 1 < bs.length):(I (lnK I n bs i)).fr = (lnC I n bs sz i:Nat) := by
 unfold lnC
 rw [if_pos hi]
 have := (hc.most _ (lnK_in (I := I) hw i hi).2.2).1
 omega
theorem lnC_last (i:Nat) (hi:¬ i + 1 < bs.length):lnC I n bs sz i = sz := by unfold lnC;rw [if_neg hi]
theorem ln_le (hw:WB n bs) (hc:Chn I n sz) (i:Nat) (hi:i < bs.length):lnF I n bs sz i ≤ lnC I n bs sz i ∧ lnC I n bs sz i ≤ sz := by
 have hm:∀ k,k < n → 0 ≤ (I k).fr ∧ (I k).fr ≤ (sz:Int) := hc.most
 have hC:lnC I n bs sz i ≤ sz := by
  by_cases c:i + 1 < bs.length
  ·have := lnC_cut hw hc i c
   have := hm _ (lnK_in (I := I) hw i c).2.2
   omega
  ·rw [lnC_last i c];exact Nat.le_refl _
 refine ⟨?_,hC⟩
 unfold lnF
 by_cases c0:i = 0
 ·rw [if_pos c0];omega
 ·rw [if_neg c0]
  have k1 := lnK_in (I := I) hw (i - 1) (by omega)
  rw [show i - 1 + 1 = i by omega] at k1
  have e1 := lnC_cut hw hc (i - 1) (by omega)
  by_cases c:i + 1 < bs.length
  ·have k2 := lnK_in (I := I) hw i c
   have e2 := lnC_cut hw hc i c
   have := (hc.mono (lnK I n bs (i - 1)) (lnK I n bs i) (by omega) k2.2.2).2
   omega
  ·rw [lnC_last i c]
   have := hm _ k1.2.2
   omega
theorem lnF_next (i:Nat):lnF I n bs sz (i + 1) = lnC I n bs sz i := by unfold lnF;rw [if_neg (by omega)];simp
theorem lnF_zero:lnF I n bs sz 0 = 0 := by unfold lnF;simp
theorem lnA_next (i:Nat):lnA bs (i + 1) = (bs.getD i 0:Nat) := by unfold lnA;rw [if_neg (by omega)];simp
theorem lnA_zero:lnA bs 0 = -1 := by unfold lnA;simp
end
end Go.Proofs.YtcjcdpfjnomehaaGreat
namespace Go.Proofs.YtcjcdpfjnomehaaGreat
set_option maxRecDepth 100000
set_option maxHeartbeats 40000000
open Go.RowKit
set_option linter.unusedSimpArgs false
set_option linter.unusedVariables false
theorem ncs_snoc (L:List Nat) (x:Nat):ncs L ++ [.int .i64 (x:Nat)] = ncs (L ++ [x]) := by simp [ncs]
theorem range_snoc (f:Nat → Nat) (i:Nat):(List.range (i + 1)).map f = (List.range i).map f ++ [f i] := by rw [List.range_succ];simp
theorem WB.len {n:Nat} {bs:List Nat} (hw:WB n bs):bs.length ≤ n := by
 have hr:∀ i,i < bs.length → i ≤ bs.getD i 0 := by
  intro i
  induction i with
  | zero => intro _;omega
  | succ i ih => intro hi;have := ih (by omega);have := hw.rise i hi;omega
 have h0 := hw.pos
 have h1 := hr (bs.length - 1) (by omega)
 have h2 := hw.lt (bs.length - 1) (by omega)
 omega
section
variable {S S':Nat → Prop} {w:World} {ao:Option Addr} {n c:Nat} {I:Nat → Itm} {bs:List Nat} {sz:Nat} {lo:Option Addr} {lc:Nat}
theorem refcuts_any (h:ItsAt S w ao n I) (hw:WB n bs) (hc:Chn I n sz) (hb:NAt S' w lo bs) :
  Calls Tryz.prog 24 #[.slice ao n c,.slice lo bs.length lc,.int .i64 (sz:Nat)] w fun e w' => ∃ v,e = .returned v ∧ w'.ownsRow w.heap.size 3 1 v bs.length (ncs ((List.range bs.length).map (lnC I n bs sz))) ∧ Below w.heap.size w w' := by
 obtain ⟨i0,hi,hz0,hz1,hz2'⟩ := info_parts info_int8
 have hn := hc.le
 have hlen := hw.len
 have hsz := hc.size
 obtain ⟨g,rfl,-,hg⟩ := hb.form hw.pos
 have HH := boxed h
 have HG := boxed hg
 have HW := boxed hw
 have HC := boxed hc
 obtain ⟨m,hm⟩:∃ m,bs.length = m := ⟨_,rfl⟩
 rw [hm] at hlen HG ⊢
 have HM := boxed hm
 clear h hw hc hb hg hm
 go_enter Tryz.func24,Tryz.ntmps24
 go_wp2_with fail
 go_loopw [7,8] (fun vo vi wr => ∃ (i:Nat) (oo:Option Addr) (cp:Nat),i ≤ m ∧ vi = .int .i64 (i:Nat) ∧ vo = .slice oo i cp ∧ Box (wr.ownsRow w.heap.size 3 1 (.slice oo i cp) i (ncs ((List.range i).map (lnC I n bs sz)))) ∧ Box (Below w.heap.size w wr)) (fun _ vi _ => m - (intOf vi).toNat)
 case atStart => exact ⟨0,none,0,Nat.zero_le _,rfl,rfl,boxed (World.ownsRow_nil _ _ _ _),boxed (Below.refl _ _)⟩
 case round =>
  obtain ⟨i,oo,cp,hin,rfl,rfl,HO,HB⟩ := hrel
  by_cases hlt:i < m
  ·have hz := HB.out.size
   by_cases hl:i + 1 = m
   ·have t1:((i:Int) == (m:Int) - 1) = true := by rw [beq_iff_eq];omega
    have HK:Box (ncs ((List.range i).map (lnC I n bs sz)) ++ [.int .i64 (sz:Nat)] = ncs ((List.range (i + 1)).map (lnC I n bs sz))) := boxed (by rw [range_snoc,← ncs_snoc,lnC_last i (by rw [HM.out];omega)])
    have hown := HO.out
    have hl2 := boxed hl
    clear hl
    go_wp2_with (at_builtin;refine wpList_append_own _ rfl _ _ 33 rfl w.heap.size 3 i0 _ 1 8 Tryz.underlying33 hi hz0 hz1 hz2' rfl (by decide) _ _ _ rfl (hown.alloc _) ⟨wr.heap.size,0,none⟩ 1 1 [.int .i64 (sz:Nat)] rfl rfl ?c1 ?c2 ?c3 ?c4 ?c5 ?_)
    case c1 =>
     intro j u hj
     match j,hj with
     | 0,hj => simp at hj;subst hj;simp [Addr.add]
    case c2 => intro u hu;simp at hu;subst hu;rfl
    case c3 => unfold maxLen;omega
    case c4 => omega
    case c5 => simp;omega
    intro v' w6 hown6 hgrow6 _
    have HB6:Box (Below w.heap.size w w6) := boxed ((HB.out.alloc hz _).grown hgrow6 (by simp;omega) (fun r e => (hown.lt r e).1))
    rw [HK.out] at hown6
    obtain ⟨ao6,cp6,rfl⟩ := own_shape hown6
    have HO6 := boxed hown6
    clear hown6 hgrow6 hown HO HB
    go_wp2_with fail
    go_roundw
    case rel => exact ⟨i + 1,ao6,cp6,by omega,by go_num,rfl,HO6,HB6⟩
    case measure => simp [intOf];omega
   ·have t1:((i:Int) == (m:Int) - 1) = false := by rw [beq_eq_false_iff_ne];omega
    have hk := lnK_in (I := I) HW.out i (by rw [HM.out];omega)
    have HS := boxed (fun W (hb:Below w.heap.size w W) => refstart_any S ao n c I W (HH.out.below hb) hn (bs.getD i 0:Nat))
    have HK:Box ((I (lnK I n bs i)).fr = (lnC I n bs sz i:Nat)) := boxed (lnC_cut HW.out HC.out i (by rw [HM.out];omega))
    have HMn:lnK I n bs i = min (sta I n (bs.getD i 0:Nat)) (bs.getD (i + 1) 0) := rfl
    have HX:Box (∀ W,Below w.heap.size w W → W.cell? ⟨g,i,none⟩ = some (.int .i64 (bs.getD i 0:Nat)) ∧ W.cell? ⟨g,i + 1,none⟩ = some (.int .i64 (bs.getD (i + 1) 0:Nat))) := boxed (fun W hb => ⟨hold hb (HG.out i (by omega)),hold hb (HG.out (i + 1) (by omega))⟩)
    have hx1 := HW.out.lt i (by rw [HM.out];omega)
    have hx2 := HW.out.lt (i + 1) (by rw [HM.out];omega)
    have hx3 := sta_le I n (bs.getD i 0:Nat)
    have HI := boxed (fun W (hb:Below w.heap.size w W) => (HH.out.below hb) (lnK I n bs i) hk.2.2)
    have HC7:Box (ncs ((List.range i).map (lnC I n bs sz)) ++ [.int .i64 (lnC I n bs sz i:Nat)] = ncs ((List.range (i + 1)).map (lnC I n bs sz))) := boxed (by rw [range_snoc,← ncs_snoc])
    have hkn := hk.2.2
    have hC8:lnC I n bs sz i ≤ sz := (ln_le HW.out HC.out i (by rw [HM.out];omega)).2
    generalize lnK I n bs i = K at *
    generalize hCC:lnC I n bs sz i = CC at *
    generalize sta I n (bs.getD i 0:Nat) = st at *
    generalize bs.getD i 0 = x at *
    generalize bs.getD (i + 1) 0 = y at *
    have HMn2 := boxed HMn
    obtain ⟨i1,hi1⟩:∃ i1,i + 1 = i1 := ⟨_,rfl⟩
    have hw1:IntKind.i64.wrap ((i:Int) + 1) = (i1:Int) := by rw [IntKind.wrap_i64];omega
    have hIi:i1 < m := by omega
    have hIj:(i1:Int) < (m:Int) := by omega
    rw [hi1] at HX
    have HI1 := boxed hi1
    clear hi1
    have HD:Box (Below w.heap.size w wr.drew) := boxed HB.out.drew
    have hown := HO.out
    clear HMn hCC hk hl
    go_wp2_with fail
    go_region_held3 (fun W => W.cell? ⟨g,i,none⟩ = some (.int .i64 (x:Nat)) ∧ W.cell? ⟨g,i1,none⟩ = some (.int .i64 (y:Nat)))
     (first | with_reducible exact HX.out _ HD.out | with_reducible exact HX.out _ HB2.out)
     (first | (go_at_call 75;refine (HS.out _ HD.out).mono ?_;rintro e w2 ⟨rfl,hb2⟩;have HB2 := boxed (below_step HD.out (Nat.le_refl _) hb2);have HO2 := boxed (owns_below (show wr.drew.ownsRow _ _ _ _ _ _ from HO.out) hb2);clear hb2))
    have hmin:min (st:Int) (y:Int) = (K:Int) := by have := HMn2.out;omega
    rw [hmin]
    obtain ⟨b,off,e,-,-,-,-,-,-,-,-,c7,-⟩ := HI.out _ HB2.out
    subst e
    rw [HK.out] at c7
    have hb2:b ≠ w2.heap.size := by have := World.block_lt_of_cell? w2 _ c7;simp only at this;omega
    have hz2 := HB2.out.size
    have hown2:w2.ownsRow w.heap.size 3 1 (.slice oo i cp) i (ncs ((List.range i).map (lnC I n bs sz))) := HO2.out
    have hkN:(K:Int) < (n:Int) := by omega
    go_wp2_with (at_builtin;refine wpList_append_own _ rfl _ _ 33 rfl w.heap.size 3 i0 _ 1 8 Tryz.underlying33 hi hz0 hz1 hz2' rfl (by decide) _ _ _ rfl (hown2.alloc _) ⟨w2.heap.size,0,none⟩ 1 1 [.int .i64 (CC:Nat)] rfl rfl ?c1 ?c2 ?c3 ?c4 ?c5 ?_)
    case c1 =>
     intro j u hj
     match j,hj with
     | 0,hj => simp at hj;subst hj;simp [Addr.add]
    case c2 => intro u hu;simp at hu;subst hu;rfl
    case c3 => unfold maxLen;omega
    case c4 => omega
    case c5 => simp;omega
    intro v' w6 hown6 hgrow6 _
    have HB6:Box (Below w.heap.size w w6) := boxed ((HB2.out.alloc hz2 _).grown hgrow6 (by simp;omega) (fun r e => (hown2.lt r e).1))
    rw [HC7.out] at hown6
    obtain ⟨ao6,cp6,rfl⟩ := own_shape hown6
    have HO6:Box (w6.ownsRow w.heap.size 3 1 (.slice ao6 (i + 1) cp6) (i + 1) (ncs ((List.range (i + 1)).map (lnC I n bs sz)))) := boxed hown6
    clear hown6 hgrow6 hown hown2 HO HB hw1
    go_wp2_with fail
    go_roundw
    case rel => exact ⟨i + 1,ao6,cp6,by omega,by go_num,rfl,HO6,HB6⟩
    case measure => simp [intOf];omega
  ·obtain rfl:m = i := by omega
   go_wp2
   go_ret
   exact ⟨_,rfl,HO.out,HB.out⟩
end
end Go.Proofs.YtcjcdpfjnomehaaGreat
