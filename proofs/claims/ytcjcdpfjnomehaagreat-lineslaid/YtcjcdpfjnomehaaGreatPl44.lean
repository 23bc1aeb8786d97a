/- What the document's all answers, if it answers so for the ways that go on. -/
import Derived.Deep.DeepCutAuto
import Derived.Test.YtcjcdpfjnomehaaGreatPl43
import Derived.Test.YtcjcdpfjnomehaaGreatPl35
namespace Go.Proofs.YtcjcdpfjnomehaaGreat
set_option maxRecDepth 100000
set_option maxHeartbeats 40000000
open Go.RowKit
set_option linter.unusedSimpArgs false
set_option linter.unusedVariables false
def BsAt (S:Nat → Prop) (w:World) (I:Nat → Itm) (n:Nat) (wv:Value) (T:Int) (f:Bool) (b:Option (Int × List Nat)):Prop :=
 (b = none ∧ wv = .slice none 0 0 ∧ T = 0 ∧ f = false) ∨ ∃ c l,b = some (c,l) ∧ T = c ∧ f = true ∧ ∃ bo bc,wv = .slice bo l.length bc ∧ NAt S w bo (l.map (bkn I n))
theorem BsAt.keep {S S':Nat → Prop} {w w':World} {I:Nat → Itm} {n:Nat} {wv:Value} {T:Int} {f:Bool} {b:Option (Int × List Nat)} (h:BsAt S w I n wv T f b) (k:Kp S S' w w'):BsAt S' w' I n wv T f b := by
 rcases h with h | ⟨c,l,h1,h2,h3,bo,bc,h4,h5⟩
 ·exact .inl h
 ·exact .inr ⟨c,l,h1,h2,h3,bo,bc,h4,h5.keep k⟩
theorem BsAt.shape {S:Nat → Prop} {w:World} {I:Nat → Itm} {n:Nat} {wv:Value} {T:Int} {f:Bool} {b:Option (Int × List Nat)} (h:BsAt S w I n wv T f b):∃ o l c,wv = .slice o l c := by
 rcases h with ⟨-,h,-⟩ | ⟨c,l,-,-,-,bo,bc,h,-⟩
 ·exact ⟨_,_,_,h⟩
 ·exact ⟨_,_,_,h⟩
def AllP (S:Nat → Prop) (ao:Option Addr) (n c:Nat) (I:Nat → Itm) (width:Int) (s:Stg) (em:Bool) (w:World) (k:Nat) (wo:Option Addr) (wc:Nat) (pre:List Nat) (wv:Value) (T:Int) (f:Bool) (b:Option (Int × List Nat)) (S0:Nat → Prop):Prop :=
 Calls Tryz.prog 57 #[.slice ao n c,.slice wo pre.length wc,.int .i64 (k:Int),.int .i64 width,s.val,.bool em,.agg #[wv,.int .i64 T,.bool f]] w fun e w' => ∃ wv' T' f' b',e = .returned (.agg #[wv',.int .i64 T',.bool f']) ∧ BsAt (fun x => S0 x ∨ w.heap.size ≤ x) w' I n wv' T' f' b' ∧ Upd (PX I n width s em) (fun l => ∃ t,l = pre ++ t) b b' ∧ Below w.heap.size w w'
structure AlI (w:World) (B:Nat) (s:Stg) (I:Nat → Itm) (n:Nat) (eo:Option Addr) (wv:Value) (T:Int) (f:Bool) (b:Option (Int × List Nat)) (S0:Nat → Prop) (W:World):Prop where
 bel:Below B w W
 sb:W.heap[B]? = some (.cells #[.int .i64 s.t,.int .i64 s.l,.int .i64 s.a,.int .i64 s.d,.int .i64 s.z,.int .i64 s.o,.int .i64 s.i] 25 (0,0))
 bb:W.heap[B + 1]? = some (.cells #[wv,.int .i64 T,.bool f] 110 (0,0))
 rb:W.heap[B + 1 + 1]? = some (.cells #[.slice none 0 0,.int .i64 0,.bool false] 110 (0,0))
 en:NAt (fun x => B + 3 ≤ x) W eo (lgs I n n)
 bs:BsAt (fun x => (S0 x ∧ x < B) ∨ B + 3 ≤ x) W I n wv T f b
section
variable {w W W':World} {B:Nat} {s:Stg} {I:Nat → Itm} {n:Nat} {eo:Option Addr} {wv:Value} {T:Int} {f:Bool} {b:Option (Int × List Nat)} {S0:Nat → Prop}
theorem AlI.next (h:AlI w B s I n eo wv T f b S0 W) (hb:Below W.heap.size W W'):AlI w B s I n eo wv T f b S0 W' where
 bel := h.bel.trans (hb.mono (by have := heap_lt h.sb;omega))
 sb := (hb.block _ (heap_lt h.sb)).trans h.sb
 bb := (hb.block _ (heap_lt h.bb)).trans h.bb
 rb := (hb.block _ (heap_lt h.rb)).trans h.rb
 en := h.en.below hb
 bs := h.bs.keep (kp_below hb)
theorem kp_sets {S:Nat → Prop} (g:Nat) (vs:List Value) (W:World) (hS:∀ x,S x → x ≠ g):Kp S S W (W.setCells g 0 vs) := fun x i u hs hc => ⟨hs,by
 rw [World.cell?_of_block (a := ⟨x,i,none⟩) (sets_other g x (hS x hs) vs 0 W)];exact hc⟩
theorem AlI.put (h:AlI w B s I n eo wv T f b S0 W) {wv':Value} {T':Int} {f':Bool} {b':Option (Int × List Nat)} (hb:BsAt (fun x => (S0 x ∧ x < B) ∨ B + 3 ≤ x) W I n wv' T' f' b'):AlI w B s I n eo wv' T' f' b' S0 (W.setCells (B + 1) 0 [wv',.int .i64 T',.bool f']) where
 bel := h.bel.trans (sets_below _ _ (by omega) _ _ _)
 sb := (sets_other _ _ (by omega) _ _ _).trans h.sb
 bb := sets_heap _ _ _ 0 _ _ h.bb
 rb := (sets_other _ _ (by omega) _ _ _).trans h.rb
 en := h.en.keep (kp_sets _ _ _ (fun x hx => by omega))
 bs := hb.keep (kp_sets _ _ _ (fun x hx => by rcases hx with ⟨-,hx⟩ | hx <;> omega))
theorem AlI.out (h:AlI w B s I n eo wv T f b S0 W):(W.setCells (B + 1 + 1) 0 [wv,.int .i64 T,.bool f]).heap[B + 1 + 1]? = some (.cells #[wv,.int .i64 T,.bool f] 110 (0,0)) ∧ Below B w (W.setCells (B + 1 + 1) 0 [wv,.int .i64 T,.bool f]) ∧ BsAt (fun x => S0 x ∨ B ≤ x) (W.setCells (B + 1 + 1) 0 [wv,.int .i64 T,.bool f]) I n wv T f b :=
 ⟨sets_heap _ _ _ 0 _ _ h.rb,h.bel.trans (sets_below _ _ (by omega) _ _ _),(h.bs.keep (kp_sets _ _ _ (fun x hx => by rcases hx with ⟨-,hx⟩ | hx <;> omega))).keep (kp_more (fun x hx => by rcases hx with ⟨hx,-⟩ | hx;exact .inl hx;exact .inr (by omega)) (Below.refl _ _))⟩
end
section
variable {S S':Nat → Prop} {w:World} {ao wo:Option Addr} {n c wq k:Nat} {I:Nat → Itm} {width:Int} {s:Stg} {em:Bool} {pre:List Nat} {wv:Value} {T:Int} {f:Bool} {b:Option (Int × List Nat)} {a t:Int} {S0:Nat → Prop}
theorem all_step (h:ItsAt S w ao n I) (hn:n ≤ 262144) (hok:∀ i,i < n → okI I i = true) (hw:1 ≤ width ∧ width ≤ 1073741824) (hs:okS s = true) (hk:k < nbk I n)
  (hwy:NAt S' w wo (pre.map (bkn I n))) (hpl:pre.length ≤ k) (hpf:pf (PX I n width s em) 0 (-1) 0 pre = some (k,a,t)) (hbs:BsAt S0 w I n wv T f b)
  (IH:∀ (W:World) (k':Nat) (wo':Option Addr) (wc':Nat) (pre':List Nat) (wv':Value) (T':Int) (f':Bool) (b':Option (Int × List Nat)) (a' t':Int) (S1:Nat → Prop),ItsAt S W ao n I → k < k' → k' < nbk I n → NAt (fun _ => True) W wo' (pre'.map (bkn I n)) → pre'.length ≤ k' → pf (PX I n width s em) 0 (-1) 0 pre' = some (k',a',t') → BsAt S1 W I n wv' T' f' b' → AllP S ao n c I width s em W k' wo' wc' pre' wv' T' f' b' S1) :
  AllP S ao n c I width s em w k wo wq pre wv T f b S0 := by
 have hl := lgs_len I n n
 have hm:nbk I n ≤ 262144 := by unfold nbk;omega
 have HH := boxed h
 have HY := boxed hwy
 have HIH := boxed IH
 have HNn := boxed (px_nn I n width s em hok hs)
 have HBS := boxed hbs
 have HPF := boxed hpf
 clear h hwy IH hbs hpf
 obtain ⟨q0,q1,q2,q3,q4⟩ := heap3 w (.cells #[.int .i64 s.t,.int .i64 s.l,.int .i64 s.a,.int .i64 s.d,.int .i64 s.z,.int .i64 s.o,.int .i64 s.i] 25) (.cells #[wv,.int .i64 T,.bool f] 110) (.cells #[.slice none 0 0,.int .i64 0,.bool false] 110)
 have hL := reflegal8_any S ao n c I _ (HH.out.below q3) hn
 rw [q4,show (lgs I n n).length = nbk I n from rfl] at hL
 have HQ := boxed (And.intro q0 (And.intro q1 (And.intro q2 (And.intro q3 q4))))
 clear q0 q1 q2 q3 q4
 unfold AllP Stg.val
 go_enter Tryz.func57,Tryz.ntmps57
 go_wp2_with fail
 refine hL.mono ?_
 rintro e w1 ⟨v1,rfl,ho,hb1⟩
 obtain ⟨eo,ec,rfl⟩ := own_shape ho
 have HA1:Box (AlI w w.heap.size s I n eo wv T f b S0 w1) := boxed (by
  obtain ⟨q0,q1,q2,q3,q4⟩ := HQ.out
  refine ⟨q3.trans (hb1.mono (by omega)),(hb1.block _ (by omega)).trans q0,(hb1.block _ (by omega)).trans q1,(hb1.block _ (by omega)).trans q2,own_nat ho rfl,HBS.out.keep (fun x i u hs hc => ⟨.inl ⟨hs,by have := World.block_lt_of_cell? w _ hc;simpa using this⟩,?_⟩)⟩
  exact hold (q3.trans (hb1.mono (by omega))) hc)
 clear ho hb1 hL HQ HBS
 generalize hM:nbk I n = m at *
 replace hM := boxed hM
 have HUp:Box (Upd (PX I n width s em) (Ext pre k) b b) := boxed (ext_zero HNn.out HPF.out b)
 go_wp2_with fail
 go_loopw [17] (fun jv wr => ∃ (j:Nat) (wv':Value) (T':Int) (f':Bool) (b':Option (Int × List Nat)),k ≤ j ∧ j ≤ m ∧ jv = .int .i64 (j:Int) ∧ Box (∀ q,q < j → k ≤ q → forc (itb I n q) = false) ∧ Box (AlI w w.heap.size s I n eo wv' T' f' b' S0 wr) ∧ Box (Upd (PX I n width s em) (Ext pre j) b b')) (fun jv _ => m - (intOf jv).toNat)
 case atStart => exact ⟨k,wv,T,f,b,Nat.le_refl _,by omega,rfl,boxed (fun q h1 h2 => by omega),HA1,HUp⟩
 case round =>
  obtain ⟨j,wv',T',f',b',hkj,hjm,rfl,HFo,HA,HU⟩ := hrel
  clear HA1 HUp
  by_cases hlt:j < m
  ·have t1:decide ((j:Int) < (m:Int)) = true := decide_eq_true (by omega)
   have t1':decide (j < m) = true := decide_eq_true hlt
   obtain ⟨⟨s0,s1,s2,s3,s4,s5,s6⟩,-⟩ := cells7 HA.out.sb
   have hdo := does_any (S := S) (c := c) (ec := ec) (width := width) (s := s) (HH.out.below HA.out.bel) hn hok HA.out.en hw k j (by rw [hM.out];omega) (by rw [hM.out];exact hlt) em
   rw [hM.out] at hdo
   unfold Stg.val at hdo
   obtain ⟨D,hD⟩:∃ D,(PX I n width s em).dz k j = D := ⟨_,rfl⟩
   rw [hD] at hdo
   replace hD := boxed hD
   go_upto_if 39 with (go_at_call 52;refine hdo.mono ?_;rintro e w2 ⟨rfl,hb2⟩;have HA2 := boxed (HA.out.next hb2);clear hb2)
   clear hdo s0 s1 s2 s3 s4 s5 s6
   go_cut [18] (fun _ wx => ∃ (wv':Value) (T':Int) (f':Bool) (b':Option (Int × List Nat)),Box (AlI w w.heap.size s I n eo wv' T' f' b' S0 wx) ∧ Box (Upd (PX I n width s em) (Ext pre (j + 1)) b b'))
   case first =>
    cases D
    ·have HU2:Box (Upd (PX I n width s em) (Ext pre (j + 1)) b b') := boxed (ext_not HNn.out HPF.out HU.out (by
      cases h:mayL (PX I n width s em) k j with
      | false => rfl
      | true =>
       have := ((mayL_iff _ _ _).1 h).2.2.1
       rw [hD.out] at this
       cases this))
     go_wp2_with fail
     go_meet
     case rel => exact ⟨wv',T',f',b',HA2,HU2⟩
    have HMy:Box (mayL (PX I n width s em) k j = true) := boxed ((mayL_iff _ _ _).2 ⟨hkj,by show j < nbk I n;rw [hM.out];exact hlt,hD.out,HFo.out⟩)
    go_wp2_with fail
    obtain ⟨i0,hi,hz0,hz1,hz2⟩ := info_parts info_int8
    obtain ⟨ge,ee,-,ce⟩ := HA2.out.en j (by show j < nbk I n;rw [hM.out];exact hlt)
    rw [show (lgs I n n).getD j 0 = bkn I n j from rfl] at ce
    subst ee
    have hge := World.block_lt_of_cell? w2 _ ce
    simp only at hge
    have hge':ge ≠ w2.heap.size := by omega
    have hge2:ge ≠ w2.heap.size + 1 := by omega
    have hjm2:(j:Int) < (m:Int) := by omega
    have HSr := boxed (fun W (hb:Below w2.heap.size w2 W) => (((HY.out.below HA2.out.bel).below hb).under9))
    have hpm:(pre.map (bkn I n)).length = pre.length := List.length_map _
    rw [hpm] at HSr
    obtain ⟨y,hy⟩:∃ y,bkn I n j = y := ⟨_,rfl⟩
    rw [hy] at ce
    have eo := ncs_one (pre.map (bkn I n))
    have HLs:Box (ncs (pre.map (bkn I n)) ++ [.int .i64 (y:Int)] = ncs ((pre ++ [j]).map (bkn I n))) := boxed (by rw [List.map_append,ncs_app,List.map_cons,hy];rfl)
    generalize ncs (pre.map (bkn I n)) = Ls at *
    generalize hpn:pre.length = pn at *
    replace hpn := boxed hpn
    obtain ⟨b1,b2,b3,b4⟩ := laid2 w2 (.cells #[] 3) (.cells #[.int .i64 (y:Int)] 3)
    obtain ⟨d1,d2,d3,d4⟩ := laid2 w2 (.cells #[.int .i64 (y:Int)] 3) (.cells #[] 3)
    have LA:((w2.alloc (.cells #[] 3)).drew).heap[w2.heap.size]? = some (.cells #[] 3 (0,0)) := heap_alloc_new w2 _
    have BA:Below w2.heap.size w2 ((w2.alloc (.cells #[] 3)).drew) := ((Below.refl _ _).alloc (Nat.le_refl _) _).drew
    have BB := b3.drew
    have BC := d3.drew
    replace b1:(((w2.alloc (.cells #[] 3)).alloc (.cells #[.int .i64 (y:Int)] 3)).drew).heap[w2.heap.size]? = some (.cells #[] 3 (0,0)) := b1
    replace b2:(((w2.alloc (.cells #[] 3)).alloc (.cells #[.int .i64 (y:Int)] 3)).drew).heap[w2.heap.size + 1]? = some (.cells #[.int .i64 (y:Int)] 3 (0,0)) := b2
    replace d1:(((w2.alloc (.cells #[.int .i64 (y:Int)] 3)).alloc (.cells #[] 3)).drew).heap[w2.heap.size]? = some (.cells #[.int .i64 (y:Int)] 3 (0,0)) := d1
    replace d2:(((w2.alloc (.cells #[.int .i64 (y:Int)] 3)).alloc (.cells #[] 3)).drew).heap[w2.heap.size + 1]? = some (.cells #[] 3 (0,0)) := d2
    have hone:∀ u ∈ ([.int .i64 (y:Int)]:List Value),u.oneCell' = true := by intro u hu;simp at hu;subst hu;rfl
    have HSY:Box (∀ (W:World) (q:Nat),W.heap[q]? = some (.cells #[.int .i64 (y:Int)] 3 (0,0)) → Src9 W (some ⟨q,0,none⟩) 1 [.int .i64 (y:Int)]) := boxed (fun W q h => .inr ⟨_,rfl,rfl,fun x u hx => by
     obtain ⟨hx0,hx1⟩ := List.getElem?_eq_some_iff.1 hx
     simp at hx0
     subst hx0
     rw [Addr.add_lit]
     exact (row_cell h 0 _ rfl).trans (by rw [← hx];rfl)⟩)
    have HD := boxed (And.intro LA (And.intro b1 (And.intro b2 (And.intro d1 d2))))
    have HBB := boxed (And.intro BA (And.intro BB BC))
    clear LA b1 b2 b3 d1 d2 d3 BA BB BC
    go_cut [18] (fun s18 wx => ∃ no nc,s18 = .slice no (pn + 1) nc ∧ Box (wx.ownsRow w2.heap.size 3 1 (.slice no (pn + 1) nc) (pn + 1) (Ls ++ [.int .i64 (y:Int)])) ∧ Box (Below w2.heap.size w2 wx))
    case first =>
     go_region_law
      (first
       | (with_reducible refine at_world9 ((w2.alloc (.cells #[] 3)).drew) ?_;refine step_append_src9 rfl _ _ 33 rfl w2.heap.size 3 i0 _ 8 Tryz.underlying33 hi hz0 hz1 hz2 rfl (.slice (some ⟨w2.heap.size,0,none⟩) 0 0) 0 [] rfl (own_none9 _ _ (w2.heap.size) (by omega) HD.out.1) wo pn wq Ls rfl (HSr.out _ HBB.out.1) eo (by unfold maxLen;omega) (by omega) (HBB.out.1).size ?_;intro v1 z1 ho1 hg1;rw [Nat.zero_add,List.nil_append] at ho1;have m1:Below w2.heap.size w2 z1 := (HBB.out.1).grown hg1 (HBB.out.1).size (fun r e => by simp [Value.ownBlock] at e;omega);have ce1 := hold m1 ce;have HO1 := boxed ho1;have HM1 := boxed m1;clear ho1 hg1 m1)
       | (with_reducible refine at_world9 (((w2.alloc (.cells #[] 3)).alloc (.cells #[.int .i64 (y:Int)] 3)).drew) ?_;refine step_append_src9 rfl _ _ 33 rfl w2.heap.size 3 i0 _ 8 Tryz.underlying33 hi hz0 hz1 hz2 rfl (.slice (some ⟨w2.heap.size,0,none⟩) 0 0) 0 [] rfl (own_none9 _ _ (w2.heap.size) (by omega) HD.out.2.1) wo pn wq Ls rfl (HSr.out _ HBB.out.2.1) eo (by unfold maxLen;omega) (by omega) (HBB.out.2.1).size ?_;intro v1 z1 ho1 hg1;rw [Nat.zero_add,List.nil_append] at ho1;have m1:Below w2.heap.size w2 z1 := (HBB.out.2.1).grown hg1 (HBB.out.2.1).size (fun r e => by simp [Value.ownBlock] at e;omega);have ce1 := hold m1 ce;have HY1:Box (z1.heap[w2.heap.size + 1]? = some (.cells #[.int .i64 (y:Int)] 3 (0,0))) := boxed ((hg1.block _ (heap_lt HD.out.2.2.1) (by simp [Value.ownBlock])).trans HD.out.2.2.1);have HO1 := boxed ho1;have HM1 := boxed m1;clear ho1 hg1 m1)
       | (with_reducible refine at_world9 (((w2.alloc (.cells #[.int .i64 (y:Int)] 3)).alloc (.cells #[] 3)).drew) ?_;refine step_append_src9 rfl _ _ 33 rfl w2.heap.size 3 i0 _ 8 Tryz.underlying33 hi hz0 hz1 hz2 rfl (.slice (some ⟨w2.heap.size + 1,0,none⟩) 0 0) 0 [] rfl (own_none9 _ _ (w2.heap.size + 1) (by omega) HD.out.2.2.2.2) wo pn wq Ls rfl (HSr.out _ HBB.out.2.2) eo (by unfold maxLen;omega) (by omega) (HBB.out.2.2).size ?_;intro v1 z1 ho1 hg1;rw [Nat.zero_add,List.nil_append] at ho1;have m1:Below w2.heap.size w2 z1 := (HBB.out.2.2).grown hg1 (HBB.out.2.2).size (fun r e => by simp [Value.ownBlock] at e;omega);have ce1 := hold m1 ce;have HY1:Box (z1.heap[w2.heap.size]? = some (.cells #[.int .i64 (y:Int)] 3 (0,0))) := boxed ((hg1.block _ (heap_lt HD.out.2.2.2.1) (by simp [Value.ownBlock])).trans HD.out.2.2.2.1);have HO1 := boxed ho1;have HM1 := boxed m1;clear ho1 hg1 m1)
       | (with_reducible refine at_world9 (z1.alloc (.cells #[.int .i64 (y:Int)] 3)) ?_;refine step_append_src9 rfl _ _ 33 rfl w2.heap.size 3 i0 _ 8 Tryz.underlying33 hi hz0 hz1 hz2 rfl v1 pn Ls rfl (owns_below HO1.out ((Below.refl _ _).alloc (Nat.le_refl _) _)) (some ⟨z1.heap.size,0,none⟩) 1 1 [.int .i64 (y:Int)] rfl (HSY.out _ (z1.heap.size) (heap_alloc_new z1 _)) hone (by unfold maxLen;omega) (by omega) (HM1.out.alloc HM1.out.size _).size ?_;intro v2 z2 ho2 hg2;obtain ⟨no,nc,rfl⟩ := own_shape ho2;have HM2:Box (Below w2.heap.size w2 z2) := boxed ((HM1.out.alloc HM1.out.size _).grown hg2 (HM1.out.alloc HM1.out.size _).size (fun r e => (HO1.out.lt r e).1));have HO2 := boxed ho2;clear ho2 hg2)
       | (with_reducible refine at_world9 z1 ?_;refine step_append_src9 rfl _ _ 33 rfl w2.heap.size 3 i0 _ 8 Tryz.underlying33 hi hz0 hz1 hz2 rfl v1 pn Ls rfl HO1.out (some ⟨w2.heap.size + 1,0,none⟩) 1 1 [.int .i64 (y:Int)] rfl (HSY.out _ (w2.heap.size + 1) HY1.out) hone (by unfold maxLen;omega) (by omega) HM1.out.size ?_;intro v2 z2 ho2 hg2;obtain ⟨no,nc,rfl⟩ := own_shape ho2;have HM2:Box (Below w2.heap.size w2 z2) := boxed (HM1.out.grown hg2 HM1.out.size (fun r e => (HO1.out.lt r e).1));have HO2 := boxed ho2;clear ho2 hg2)
       | (with_reducible refine at_world9 z1 ?_;refine step_append_src9 rfl _ _ 33 rfl w2.heap.size 3 i0 _ 8 Tryz.underlying33 hi hz0 hz1 hz2 rfl v1 pn Ls rfl HO1.out (some ⟨w2.heap.size,0,none⟩) 1 1 [.int .i64 (y:Int)] rfl (HSY.out _ (w2.heap.size) HY1.out) hone (by unfold maxLen;omega) (by omega) HM1.out.size ?_;intro v2 z2 ho2 hg2;obtain ⟨no,nc,rfl⟩ := own_shape ho2;have HM2:Box (Below w2.heap.size w2 z2) := boxed (HM1.out.grown hg2 HM1.out.size (fun r e => (HO1.out.lt r e).1));have HO2 := boxed ho2;clear ho2 hg2))
     all_goals
      go_wp2_with fail
      go_meet
      case rel => exact ⟨no,nc,rfl,HO2,HM2⟩
    case rest =>
     obtain ⟨no,nc,rfl,HO2,HM2⟩ := hcut
     have HA3 := boxed (HA2.out.next HM2.out)
     have HNx:Box (NAt (fun x => w2.heap.size ≤ x) wc no ((pre ++ [j]).map (bkn I n))) := boxed (by
      have := HO2.out
      rw [HLs.out] at this
      exact own_nat this (by simp [hpn.out]))
     have HPn := boxed (pf_snoc _ pre 0 (-1) 0 k a t j HPF.out HMy.out)
     have hln:(pre ++ [j]).length = pn + 1 := by simp [hpn.out]
     have HW2:Box (∀ x,w2.heap.size ≤ x → w.heap.size + 3 ≤ x) := boxed (fun x hx => by have := heap_lt HA2.out.rb;omega)
     clear HO2 HM2 HSr HD HBB HSY HLs hone hi hz0 hz1 hz2 ce hge hge' hge2 hy eo
     obtain ⟨⟨s0,s1,s2,s3,s4,s5,s6⟩,-⟩ := cells7 HA3.out.sb
     obtain ⟨⟨r0,r1,r2⟩,r3,r4,r5⟩ := cells3 HA3.out.bb
     by_cases hla:j + 1 = m
     ·have t2:((j:Int) == (m:Int) - 1) = true := by rw [beq_iff_eq];omega
      have hpr := price_any (S := S) (c := c) (xc := nc) (width := width) (s := s) (HH.out.below HA3.out.bel) hn hok hw hs em (nat_ints HNx.out (fun x hx => by
       rw [map_getD _ _ x (by simpa using hx)]
       have := (itb_at I n ((pre ++ [j]).getD x 0) (by
        have h5 := (pf_le _ _ _ _ _ _ _ _ (Nat.zero_le _) HPn.out).2 ((pre ++ [j]).getD x 0) (by
         rw [List.getD_eq_getElem?_getD,List.getElem?_eq_getElem (by simpa using hx)];exact List.getElem_mem _)
        exact h5)).2
       omega)) (by rw [List.length_map,hln];omega)
      rw [List.length_map,hln] at hpr
      have HWy:Box (∀ T1 ok1,Prc (PX I n width s em) I n (fun x => (((pre ++ [j]).map (bkn I n)).getD x 0:Nat)) (pn + 1) T1 ok1 → ok1 = true ∧ cw (PX I n width s em) 0 (-1) (pre ++ [j]) = some T1) := boxed (fun T1 ok1 h => by
       have h5 := HPn.out
       rw [show j + 1 = (PX I n width s em).m by rw [px_m,hM.out];exact hla] at h5
       have h6 := pf_end HNn.out h5
       have h7 := prc_way rfl h hln (fun x hx => by rw [map_getD _ _ x (by omega)]) h6
       exact ⟨h7.1,by rw [h7.2];exact h6⟩)
      unfold Stg.val at hpr
      go_wp2_with fail
      refine hpr.mono ?_
      rintro e w4 ⟨T1,ok1,rfl,hprc,hb4⟩
      obtain ⟨rfl,hcw⟩ := HWy.out _ _ hprc
      have HA4 := boxed (HA3.out.next hb4)
      have HN4:Box (BsAt (fun x => (S0 x ∧ x < w.heap.size) ∨ w.heap.size + 3 ≤ x) w4 I n (.slice no (pn + 1) nc) T1 true (some (T1,pre ++ [j]))) := boxed (.inr ⟨T1,pre ++ [j],rfl,rfl,rfl,no,nc,by rw [hln],HNx.out.keep (kp_more (fun x hx => .inr (HW2.out x hx)) hb4)⟩)
      have HCw := boxed hcw
      clear hb4 hprc hcw hpr HWy HNx HPn s0 s1 s2 s3 s4 s5 s6 r0 r1 r2 r3 r4 r5
      obtain ⟨⟨r0,r1,r2⟩,r3,r4,r5⟩ := cells3 HA4.out.bb
      rcases HA4.out.bs with ⟨rfl,rfl,rfl,rfl⟩ | ⟨c0,l0,rfl,rfl,rfl,bo,bc,rfl,-⟩
      ·have HA5 := HA4.out.put HN4.out
       have HU5:Box (Upd (PX I n width s em) (Ext pre (j + 1)) b (some (T1,pre ++ [j]))) := boxed (ext_next HU.out (ext_last HNn.out HPF.out HMy.out (by rw [px_m,hM.out];exact hla) (upd_one _ _ _ HCw.out (fun x hx => by cases hx))))
       simp only [World.setCells,Nat.zero_add,Nat.reduceAdd] at HA5
       replace HA5 := boxed HA5
       clear HN4 HCw
       go_wp2_with fail
       go_meet
       case rel => exact ⟨_,_,_,_,HA5,HU5⟩
      ·by_cases hc:T1 < T'
       ·have t3:decide (T1 < T') = true := decide_eq_true hc
        have HA5 := HA4.out.put HN4.out
        have HU5:Box (Upd (PX I n width s em) (Ext pre (j + 1)) b (some (T1,pre ++ [j]))) := boxed (ext_next HU.out (ext_last HNn.out HPF.out HMy.out (by rw [px_m,hM.out];exact hla) (upd_one _ _ _ HCw.out (fun x hx => by injection hx with hx;subst hx;exact hc))))
        simp only [World.setCells,Nat.zero_add,Nat.reduceAdd] at HA5
        replace HA5 := boxed HA5
        clear HN4 HCw
        generalize l0.length = ll at *
        go_wp2_with fail
        go_meet
        case rel => exact ⟨_,_,_,_,HA5,HU5⟩
       ·have t3:decide (T1 < T') = false := decide_eq_false hc
        have HU5:Box (Upd (PX I n width s em) (Ext pre (j + 1)) b (some (T',l0))) := boxed (ext_next HU.out (ext_last HNn.out HPF.out HMy.out (by rw [px_m,hM.out];exact hla) (upd_not _ _ _ HCw.out (by simp only;omega))))
        clear HN4 HCw
        generalize l0.length = ll at *
        go_wp2_with fail
        go_meet
        case rel => exact ⟨_,_,_,_,HA4,HU5⟩
     ·have t2:((j:Int) == (m:Int) - 1) = false := by rw [beq_eq_false_iff_ne];omega
      have hih := HIH.out wc (j + 1) no nc (pre ++ [j]) wv' T' f' b' _ _ _ (HH.out.below HA3.out.bel) (by omega) (by omega) (HNx.out.keep (kp_more (fun _ _ => trivial) (Below.refl _ _))) (by rw [hln];omega) HPn.out HA3.out.bs
      unfold AllP Stg.val at hih
      rw [hln,show ((j + 1:Nat):Int) = (j:Int) + 1 by omega] at hih
      have hj64:(j:Int) + 1 ≤ 1000000 := by omega
      clear HNx HPn
      go_wp2_with fail
      refine hih.mono ?_
      rintro e w4 ⟨wv2,T2,f2,b2,rfl,hbs,hup,hb4⟩
      obtain ⟨bo2,bl2,bc2,rfl⟩ := hbs.shape
      have hz3 := heap_lt HA3.out.rb
      have HA4 := boxed ((HA3.out.next hb4).put (hbs.keep (S' := fun x => (S0 x ∧ x < w.heap.size) ∨ w.heap.size + 3 ≤ x) (kp_more (fun x hx => by
       rcases hx with hx | hx
       ·exact hx
       ·exact .inr (by omega)) (Below.refl _ _))))
      have HU5 := boxed (ext_next HU.out hup)
      have hA4 := (HA3.out.next hb4).bb
      clear hb4 hbs hup hih s0 s1 s2 s3 s4 s5 s6 r0 r1 r2 r3 r4 r5
      obtain ⟨⟨r0,r1,r2⟩,r3,r4,r5⟩ := cells3 hA4
      clear hA4
      simp only [World.setCells,Nat.zero_add,Nat.reduceAdd] at HA4
      go_wp2_with fail
      go_meet
      case rel => exact ⟨_,_,_,_,HA4,HU5⟩
   case rest =>
    obtain ⟨wv2,T2,f2,b2,HA5,HU5⟩ := hcut
    obtain ⟨bo2,bl2,bc2,rfl⟩ := HA5.out.bs.shape
    clear HA2 HA HU wv' T' f' b'
    obtain ⟨ge,ee,-,ce⟩ := HA5.out.en j (by show j < nbk I n;rw [hM.out];exact hlt)
    rw [show (lgs I n n).getD j 0 = bkn I n j from rfl] at ce
    obtain ⟨hx1,hx2⟩ := itb_at I n j (by rw [hM.out];exact hlt)
    obtain ⟨ib,ifo,ei,-,x0,x1,x2,x3,x4,x5,x6,x7,x8⟩ := (HH.out.below HA5.out.bel) _ hx2
    subst ee
    subst ei
    have hfc := fun W => refforced_any (itb I n j) W
    rw [← hx1] at x0 x1 x2 x3 x4 x5 x6 x7 x8
    have hjm2:(j:Int) < (m:Int) := by omega
    have hx3:((bkn I n j:Nat):Int) < (n:Int) := by omega
    unfold Itm.val at hfc
    clear hx1
    cases hfo:forc (itb I n j)
    ·have HFo2:Box (∀ q,q < j + 1 → k ≤ q → forc (itb I n q) = false) := boxed (fun q h1 h2 => by
      by_cases e:q = j
      ·rw [e];exact hfo
      ·exact HFo.out q (by omega) h2)
     rw [hfo] at hfc
     clear hfo HFo
     generalize itb I n j = y at *
     generalize bkn I n j = z at *
     go_wp2_with (go_at_call 37;refine (hfc _).mono ?_;rintro e w4 ⟨rfl,hb4⟩;have HA6 := boxed (HA5.out.next hb4);clear hb4)
     go_roundw
     case rel => exact ⟨j + 1,.slice bo2 bl2 bc2,T2,f2,b2,by omega,by omega,by go_num,HFo2,HA6,HU5⟩
     case measure => simp [intOf];omega
    ·have HU6 := boxed (ext_all HNn.out HPF.out (by rw [px_m,hM.out];omega) hkj (.inl hfo) HU5.out)
     rw [hfo] at hfc
     clear hfo HFo HU5
     generalize itb I n j = y at *
     generalize bkn I n j = z at *
     go_wp2_with fail
     refine (hfc _).mono ?_
     rintro e w4 ⟨rfl,hb4⟩
     have hA6 := HA5.out.next hb4
     obtain ⟨⟨r0,r1,r2⟩,r3,r4,r5⟩ := cells3 hA6.bb
     obtain ⟨⟨p0,p1,p2⟩,p3,p4,p5⟩ := cells3 hA6.rb
     have HA7 := hA6.out
     simp only [World.setCells,Nat.zero_add,Nat.reduceAdd] at HA7
     replace HA7 := boxed HA7
     clear hb4 hA6 HA5 x0 x1 x2 x3 x4 x5 x6 x7 x8 ce hfc
     go_wp2_with fail
     refine bodyPost_ret (v := .agg #[.slice bo2 bl2 bc2,.int .i64 T2,.bool f2]) ?_ ?_ ?_
     ·exact results_cell_row Tryz.results57 _ _ (w.heap.size + 1 + 1) 110 #[.slice bo2 bl2 bc2,.int .i64 T2,.bool f2] (0,0) _ rfl HA7.out.1 Tryz.underlying110 rfl (by kernel_rfl)
     ·rfl
     ·exact ⟨_,T2,f2,b2,rfl,HA7.out.2.2,HU6.out,HA7.out.2.1⟩
  ·obtain ⟨bo2,bl2,bc2,rfl⟩ := HA.out.bs.shape
   obtain rfl:j = m := by omega
   have t1:decide ((j:Int) < (j:Int)) = false := decide_eq_false (by omega)
   have t1':decide (j < j) = false := decide_eq_false (by omega)
   have HU6:Box (Upd (PX I n width s em) (fun l => ∃ t,l = pre ++ t) b b') := boxed (by
    obtain ⟨j0,rfl⟩:∃ j0,j = j0 + 1 := ⟨j - 1,by omega⟩
    exact ext_all HNn.out HPF.out (by rw [px_m,hM.out];omega) (by omega) (.inr (by rw [px_m,hM.out];omega)) HU.out)
   obtain ⟨⟨r0,r1,r2⟩,r3,r4,r5⟩ := cells3 HA.out.bb
   obtain ⟨⟨p0,p1,p2⟩,p3,p4,p5⟩ := cells3 HA.out.rb
   have HA7 := HA.out.out
   simp only [World.setCells,Nat.zero_add,Nat.reduceAdd] at HA7
   replace HA7 := boxed HA7
   clear HA HU
   go_wp2_with fail
   refine bodyPost_ret (v := .agg #[.slice bo2 bl2 bc2,.int .i64 T',.bool f']) ?_ ?_ ?_
   ·exact results_cell_row Tryz.results57 _ _ (w.heap.size + 1 + 1) 110 #[.slice bo2 bl2 bc2,.int .i64 T',.bool f'] (0,0) _ rfl HA7.out.1 Tryz.underlying110 rfl (by kernel_rfl)
   ·rfl
   ·exact ⟨_,T',f',b',rfl,HA7.out.2.2,HU6.out,HA7.out.2.1⟩
end
end Go.Proofs.YtcjcdpfjnomehaaGreat
namespace Go.Proofs.YtcjcdpfjnomehaaGreat
set_option maxRecDepth 100000
set_option maxHeartbeats 40000000
open Go.RowKit
set_option linter.unusedSimpArgs false
set_option linter.unusedVariables false
section
variable {S:Nat → Prop} {w:World} {ao:Option Addr} {n c:Nat} {I:Nat → Itm} {width:Int} {s:Stg}
theorem all_any (em:Bool) (hn:n ≤ 262144) (hok:∀ i,i < n → okI I i = true) (hw:1 ≤ width ∧ width ≤ 1073741824) (hs:okS s = true) (d:Nat):∀ (W:World) (k:Nat) (wo:Option Addr) (wq:Nat) (pre:List Nat) (wv:Value) (T:Int) (f:Bool) (b:Option (Int × List Nat)) (a t:Int) (S1:Nat → Prop),
  nbk I n ≤ k + d → ItsAt S W ao n I → k < nbk I n → NAt (fun _ => True) W wo (pre.map (bkn I n)) → pre.length ≤ k → pf (PX I n width s em) 0 (-1) 0 pre = some (k,a,t) → BsAt S1 W I n wv T f b → AllP S ao n c I width s em W k wo wq pre wv T f b S1 := by
 induction d with
 | zero => intro W k wo wq pre wv T f b a t S1 h1 h2 h3;omega
 | succ d ih =>
  intro W k wo wq pre wv T f b a t S1 h1 h2 h3 h4 h5 h6 h7
  exact all_step h2 hn hok hw hs h3 h4 h5 h6 h7 (fun W k' wo' wc' pre' wv' T' f' b' a' t' S2 g1 g2 g3 g4 g5 g6 g7 => ih W k' wo' wc' pre' wv' T' f' b' a' t' S2 (by omega) g1 g3 g4 g5 g6 g7)
theorem all_zero (em:Bool) (h:ItsAt S w ao n I) (hn:n ≤ 262144) (hok:∀ i,i < n → okI I i = true) (hw:1 ≤ width ∧ width ≤ 1073741824) (hs:okS s = true) (hm:0 < nbk I n) :
  Calls Tryz.prog 57 #[.slice ao n c,.slice none 0 0,.int .i64 0,.int .i64 width,s.val,.bool em,.agg #[.slice none 0 0,.int .i64 0,.bool false]] w fun e w' => ∃ wv T f,e = .returned (.agg #[wv,.int .i64 T,.bool f]) ∧ Below w.heap.size w w' ∧
   ((f = false ∧ wv = .slice none 0 0 ∧ T = 0 ∧ Noway (PX I n width s em) 0 (-1)) ∨ (f = true ∧ ∃ l bo bc,wv = .slice bo l.length bc ∧ NAt (fun x => w.heap.size ≤ x) w' bo (l.map (bkn I n)) ∧ Best (PX I n width s em) 0 (-1) T l)) := by
 have := all_any (S := S) (ao := ao) (c := c) (s := s) em hn hok hw hs (nbk I n) w 0 none 0 [] (.slice none 0 0) 0 false none (-1) 0 (fun _ => False) (by omega) h hm (fun i hi => by simp at hi) (Nat.zero_le _) rfl (.inl ⟨rfl,rfl,rfl,rfl⟩)
 unfold AllP at this
 refine this.mono ?_
 rintro e w' ⟨wv,T,f,b,rfl,hbs,hup,hb⟩
 refine ⟨wv,T,f,rfl,hb,?_⟩
 have hup2:Upd (PX I n width s em) (fun _ => True) none b := upd_mono hup (fun l c _ => ⟨fun _ => trivial,fun _ => ⟨l,rfl⟩⟩)
 rcases upd_all hup2 with ⟨e1,h1⟩ | ⟨c1,l1,e1,h1⟩
 ·subst e1
  rcases hbs with ⟨-,g1,g2,g3⟩ | ⟨c,l,g,-⟩
  ·exact .inl ⟨g3,g1,g2,h1⟩
  ·cases g
 ·subst e1
  rcases hbs with ⟨g,-⟩ | ⟨c,l,g1,g2,g3,bo,bc,g4,g5⟩
  ·cases g
  ·injection g1 with g1
   injection g1 with e2 e3
   subst e2;subst e3;subst g2
   refine .inr ⟨g3,l1,bo,bc,g4,g5.keep (kp_more (fun x hx => ?_) (Below.refl _ _)),h1⟩
   rcases hx with hx | hx
   ·exact hx.elim
   ·exact hx
theorem some_way (I:Nat → Itm) (n:Nat) (width:Int) (s:Stg) (h:Noway (PX I n width s true) 0 (-1)):False := by
 obtain ⟨c,hc⟩ := cw_short (I := I) (n := n) (width := width) (s := s) (nbk I n) 0 (-1) (by omega)
 exact noway_some h hc
theorem refbreak_any (h:ItsAt S w ao n I) (hn:n ≤ 262144) (hok:∀ i,i < n → okI I i = true) (hw:1 ≤ width ∧ width ≤ 1073741824) (hs:okS s = true) (hm:0 < nbk I n) :
  Calls Tryz.prog 18 #[.slice ao n c,.int .i64 width,s.val] w fun e w' => ∃ bo bc T em l,e = .returned (.agg #[.slice bo l.length bc,.int .i64 T,.bool em]) ∧ NAt (fun _ => True) w' bo (l.map (bkn I n)) ∧ Best (PX I n width s em) 0 (-1) T l ∧ (em = true → Noway (PX I n width s false) 0 (-1)) ∧ Below w.heap.size w w' := by
 obtain ⟨q0,q1,q2,q3⟩ := laid2 w (.cells #[.int .i64 s.t,.int .i64 s.l,.int .i64 s.a,.int .i64 s.d,.int .i64 s.z,.int .i64 s.o,.int .i64 s.i] 25) (.cells #[.slice none 0 0,.int .i64 0,.bool false] 35)
 have HAL := boxed (fun W em (hb:Below w.heap.size w W) => all_zero (c := c) (s := s) em (h.below hb) hn hok hw hs hm)
 have hal := HAL.out _ false q2
 have HQ := boxed (And.intro q0 (And.intro q1 (And.intro q2 q3)))
 unfold Stg.val at *
 clear h q0 q1 q2 q3
 go_enter Tryz.func18,Tryz.ntmps18
 go_wp2_with fail
 refine hal.mono ?_
 rintro e w1 ⟨wv,T,f,rfl,hb1,hres⟩
 have HB1:Box (Below w.heap.size w w1 ∧ w.heap.size + 2 ≤ w1.heap.size ∧ w1.heap[w.heap.size]? = some (.cells #[.int .i64 s.t,.int .i64 s.l,.int .i64 s.a,.int .i64 s.d,.int .i64 s.z,.int .i64 s.o,.int .i64 s.i] 25 (0,0)) ∧ w1.heap[w.heap.size + 1]? = some (.cells #[.slice none 0 0,.int .i64 0,.bool false] 35 (0,0))) := boxed (by
  obtain ⟨q0,q1,q2,q3⟩ := HQ.out
  exact ⟨q2.trans (hb1.mono (by omega)),by have := hb1.size;omega,(hb1.block _ (by omega)).trans q0,(hb1.block _ (by omega)).trans q1⟩)
 have hz1 := HB1.out.2.1
 have hz2:w.heap.size ≠ w1.heap.size := by omega
 have hz3:w.heap.size + 1 ≠ w1.heap.size := by omega
 have hz4:w.heap.size < w1.heap.size := by omega
 have hz5:w.heap.size + 1 < w1.heap.size := by omega
 have hszq := HQ.out.2.2.2
 rw [hszq] at hres
 clear hb1 hal HQ hszq
 rcases hres with ⟨rfl,rfl,rfl,hno⟩ | ⟨rfl,l,bo,bc,rfl,hN,hB⟩
 ·obtain ⟨⟨s0,s1,s2,s3,s4,s5,s6⟩,-⟩ := cells7 HB1.out.2.2.1
  have HNo := boxed hno
  have hal := HAL.out (w1.alloc (.cells #[.slice none 0 0,.int .i64 0,.bool false] 110)) true (HB1.out.1.alloc HB1.out.1.size _)
  clear hno HAL
  go_wp2_with fail
  refine hal.mono ?_
  rintro e w3 ⟨wv,T,f,rfl,hb3,hres⟩
  have hz6:(w1.alloc (.cells #[.slice none 0 0,.int .i64 0,.bool false] 110)).heap.size = w1.heap.size + 1 := by simp
  rw [hz6] at hb3 hres
  rcases hres with ⟨rfl,rfl,rfl,hno⟩ | ⟨rfl,l,bo,bc,rfl,hN,hB⟩
  ·exact (some_way I n width s hno).elim
  have hE:w3.heap[w1.heap.size]? = some (.cells #[.slice none 0 0,.int .i64 0,.bool false] 110 (0,0)) := (hb3.block _ (by omega)).trans (heap_alloc_new w1 _)
  have hR:w3.heap[w.heap.size + 1]? = some (.cells #[.slice none 0 0,.int .i64 0,.bool false] 35 (0,0)) := by
   rw [hb3.block _ (by omega),Below.heap_alloc _ _ _ hz5];exact HB1.out.2.2.2
  have hB3:Below w.heap.size w w3 := (HB1.out.1.alloc HB1.out.1.size _).trans (hb3.mono (by omega))
  obtain ⟨⟨x0,x1,x2⟩,y0,y1,y2⟩ := cells3 hE
  obtain ⟨⟨p0,p1,p2⟩,p3,p4,p5⟩ := cells3 hR
  have HBe := boxed hB
  obtain ⟨W7,hW7⟩:∃ W7,W7 = (w3.setCells w1.heap.size 0 [.slice bo l.length bc,.int .i64 T,.bool true]).setCells (w.heap.size + 1) 0 [.slice bo l.length bc,.int .i64 T,.bool true] := ⟨_,rfl⟩
  have HF:Box (Below w.heap.size w W7) := boxed (by rw [hW7];exact (hB3.trans (sets_below _ _ (by omega) _ _ _)).trans (sets_below _ _ (by omega) _ _ _))
  have HR:Box (W7.heap[w.heap.size + 1]? = some (.cells #[.slice bo l.length bc,.int .i64 T,.bool true] 35 (0,0))) := boxed (by
   rw [hW7]
   refine sets_heap _ _ _ 0 _ #[.slice none 0 0,.int .i64 0,.bool false] ?_
   rw [sets_other _ _ hz3]
   exact hR)
  have HN:Box (NAt (fun _ => True) W7 bo (l.map (bkn I n))) := boxed (by
   rw [hW7]
   refine ((hN.keep (kp_sets _ _ _ (fun x hx => by omega))).keep (kp_sets _ _ _ (fun x hx => by omega))).keep (kp_more (fun _ _ => trivial) (Below.refl _ _)))
  simp only [World.setCells,Nat.zero_add,Nat.reduceAdd] at hW7
  clear hb3 hN hB hE hR hB3 s0 s1 s2 s3 s4 s5 s6 hal
  generalize hll:l.length = ll at *
  replace hll := boxed hll
  subst hW7
  go_wp2_with fail
  refine bodyPost_ret (v := .agg #[.slice bo ll bc,.int .i64 T,.bool true]) ?_ ?_ ?_
  ·exact results_cell_row Tryz.results18 _ _ (w.heap.size + 1) 35 #[.slice bo ll bc,.int .i64 T,.bool true] (0,0) _ rfl HR.out Tryz.underlying35 rfl (by kernel_rfl)
  ·rfl
  ·exact ⟨bo,bc,T,true,l,by rw [hll.out],HN.out,HBe.out,fun _ => HNo.out,HF.out⟩
 ·obtain ⟨⟨p0,p1,p2⟩,p3,p4,p5⟩ := cells3 HB1.out.2.2.2
  have HBe := boxed hB
  obtain ⟨W7,hW7⟩:∃ W7,W7 = ((w1.setCells (w.heap.size + 1) 0 [.slice bo l.length bc,.int .i64 T,.bool false]).alloc (.cells #[.slice bo l.length bc,.int .i64 T,.bool true] 110)) := ⟨_,rfl⟩
  have hszz:(w1.setCells (w.heap.size + 1) 0 [.slice bo l.length bc,.int .i64 T,.bool false]).heap.size = w1.heap.size := sets_size _ _ _ _
  have HF:Box (Below w.heap.size w W7) := boxed (by rw [hW7];exact (HB1.out.1.trans (sets_below _ _ (by omega) _ _ _)).alloc (by rw [hszz];omega) _)
  have HR:Box (W7.heap[w.heap.size + 1]? = some (.cells #[.slice bo l.length bc,.int .i64 T,.bool false] 35 (0,0))) := boxed (by
   rw [hW7,Below.heap_alloc _ _ _ (by rw [hszz];exact hz5)]
   exact sets_heap _ _ _ 0 _ _ HB1.out.2.2.2)
  have HN:Box (NAt (fun _ => True) W7 bo (l.map (bkn I n))) := boxed (by
   rw [hW7]
   have h1 := hN.keep (kp_sets (w.heap.size + 1) [.slice bo l.length bc,.int .i64 T,.bool false] w1 (fun x hx => by omega))
   exact (h1.below ((Below.refl _ _).alloc (Nat.le_refl _) _)).keep (kp_more (fun _ _ => trivial) (Below.refl _ _)))
  simp only [World.setCells,Nat.zero_add,Nat.reduceAdd] at hW7
  clear hN hB hszz HAL
  generalize hll:l.length = ll at *
  replace hll := boxed hll
  subst hW7
  go_wp2_with fail
  refine bodyPost_ret (v := .agg #[.slice bo ll bc,.int .i64 T,.bool false]) ?_ ?_ ?_
  ·exact results_cell_row Tryz.results18 _ _ (w.heap.size + 1) 35 #[.slice bo ll bc,.int .i64 T,.bool false] (0,0) _ rfl HR.out Tryz.underlying35 rfl (by kernel_rfl)
  ·rfl
  ·exact ⟨bo,bc,T,false,l,by rw [hll.out],HN.out,HBe.out,fun h => (by cases h),HF.out⟩
end
end Go.Proofs.YtcjcdpfjnomehaaGreat
namespace Go.Proofs.YtcjcdpfjnomehaaGreat
set_option maxRecDepth 100000
set_option maxHeartbeats 40000000
set_option linter.unusedSimpArgs false
set_option linter.unusedVariables false
theorem best_one {I:Nat → Itm} {n:Nat} {width:Int} {s:Stg} {c c':Int} {l l':List Nat} {em em':Bool} (h:Best (PX I n width s em) 0 (-1) c l) (hn:em = true → Noway (PX I n width s false) 0 (-1)) (h':Best (PX I n width s em') 0 (-1) c' l') (hn':em' = true → Noway (PX I n width s false) 0 (-1)):em = em' ∧ c = c' ∧ l = l' := by
 cases em <;> cases em'
 ·exact ⟨rfl,h.one h'⟩
 ·exact (noway_some (hn' rfl) h.1).elim
 ·exact (noway_some (hn rfl) h'.1).elim
 ·exact ⟨rfl,h.one h'⟩
end Go.Proofs.YtcjcdpfjnomehaaGreat
