/- What the document's place, Does and Before answer. -/
import Derived.Deep.RegionLaw
import Derived.Test.YtcjcdpfjnomehaaGreatPl35
import Derived.Test.YtcjcdpfjnomehaaGreatPl40
import Derived.Test.YtcjcdpfjnomehaaGreatPl30
import Derived.Test.YtcjcdpfjnomehaaGreatPl24
namespace Go.Proofs.YtcjcdpfjnomehaaGreat
set_option maxRecDepth 100000
set_option maxHeartbeats 40000000
open Go.RowKit
set_option linter.unusedSimpArgs false
set_option linter.unusedVariables false
theorem ret_b9 {a b:Bool} (h:a = b):Ending.returned (.bool a) = Ending.returned (.bool b) := by rw [h]
theorem place_any (S:Nat → Prop) (eo:Option Addr) (L:List Nat) (ec:Nat) (b:Int) (w:World) (h:NAt S w eo L) (hm:L.length ≤ 262144) :
  Calls Tryz.prog 51 #[.slice eo L.length ec,.int .i64 b] w fun e w' => ∃ r:Int,e = .returned (.int .i64 r) ∧ ((r = -1 ∧ ∀ k,k < L.length → ((L.getD k 0:Nat):Int) ≠ b) ∨ ∃ k:Nat,k < L.length ∧ r = (k:Int) ∧ ((L.getD k 0:Nat):Int) = b) ∧ Below w.heap.size w w' := by
 have HN := boxed h
 clear h
 generalize hM:L.length = M at *
 replace hM := boxed hM
 go_enter Tryz.func51,Tryz.ntmps51
 go_wp2_with fail
 go_loopw [5] (fun iv wr => ∃ i:Nat,i ≤ M ∧ iv = .int .i64 (i:Int) ∧ Box (∀ k,k < i → ((L.getD k 0:Nat):Int) ≠ b) ∧ Box (Below w.heap.size w wr)) (fun iv _ => M - (intOf iv).toNat)
 case atStart => exact ⟨0,Nat.zero_le _,rfl,boxed (fun k hk => by omega),boxed (Below.refl _ _)⟩
 case round =>
  obtain ⟨i,hi,rfl,HK,HBr⟩ := hrel
  by_cases hlt:i < M
  ·obtain ⟨g,rfl,-,h1⟩ := HN.out i (by rw [hM.out];exact hlt)
   replace h1 := hold HBr.out h1
   have t1:decide ((i:Int) < (M:Int)) = true := decide_eq_true (by omega)
   have t1':decide (i < M) = true := decide_eq_true hlt
   by_cases hz:((L.getD i 0:Nat):Int) = b
   ·have t2:(((L.getD i 0:Nat):Int) == b) = true := by rw [beq_iff_eq];exact hz
    have HZ:Box (∃ k:Nat,k < M ∧ (i:Int) = (k:Int) ∧ ((L.getD k 0:Nat):Int) = b) := boxed ⟨i,hlt,rfl,hz⟩
    clear HN HK hz
    generalize L.getD i 0 = z at *
    go_wp2_with fail
    go_ret
    exact ⟨(i:Int),rfl,.inr HZ.out,HBr.out⟩
   ·have t2:(((L.getD i 0:Nat):Int) == b) = false := by rw [beq_eq_false_iff_ne];exact hz
    have HK2:Box (∀ k,k < i + 1 → ((L.getD k 0:Nat):Int) ≠ b) := boxed (fun k hk => by
     by_cases q:k = i
     ·rw [q];exact hz
     ·exact HK.out k (by omega))
    clear HN HK hz
    generalize L.getD i 0 = z at *
    go_wp2_with fail
    go_roundw
    case rel => exact ⟨i + 1,by omega,by go_num,HK2,HBr⟩
    case measure => simp [intOf];omega
  ·have e:i = M := by omega
   subst e
   go_wp2_with fail
   go_ret
   exact ⟨-1,rfl,.inl ⟨rfl,HK.out⟩,HBr.out⟩
section
variable {S S':Nat → Prop} {w:World} {ao eo:Option Addr} {n c ec:Nat} {I:Nat → Itm} {width:Int} {s:Stg}
theorem bk_neg (I:Nat → Itm) (n:Nat):bk I n (-1) = -1 := by unfold bk endN;rw [if_neg (by omega)]
theorem reffit9_any (h:ItsAt S w ao n I) (hn:n ≤ 262144) (hok:∀ i,i < n → okI I i = true) (hw:1 ≤ width ∧ width ≤ 1073741824) (i k:Int) (a b:Int) (ha:a = bk I n i) (hb:b = bk I n k) :
  Calls Tryz.prog 53 #[.slice ao n c,.int .i64 a,.int .i64 b,.int .i64 width] w fun e w' => e = .returned (ftb I n width i k).val ∧ Below w.heap.size w w' := by
 subst ha;subst hb
 exact reffit_any S ao n c I w h hn hok _ _ width (by omega)
theorem does_any (h:ItsAt S w ao n I) (hn:n ≤ 262144) (hok:∀ i,i < n → okI I i = true) (he:NAt S' w eo (lgs I n n)) (hw:1 ≤ width ∧ width ≤ 1073741824) (i k:Nat) (hi:i ≤ nbk I n) (hk:k < nbk I n) (em:Bool) :
  Calls Tryz.prog 52 #[.slice ao n c,.slice eo (nbk I n) ec,.int .i64 ((i:Int) - 1),.int .i64 (k:Int),.int .i64 width,s.val,.bool em] w fun e w' => e = .returned (.bool ((PX I n width s em).dz i k)) ∧ Below w.heap.size w w' := by
 have hl := lgs_len I n n
 have hm:nbk I n ≤ 262144 := by unfold nbk;omega
 have HF := boxed (fun W (hb:Below w.heap.size w W) (a b:Int) (ha:a = bk I n ((i:Int) - 1)) (hb':b = bk I n k) => reffit9_any (c := c) (h.below hb) hn hok hw ((i:Int) - 1) k a b ha hb')
 have HE := boxed he
 have HD:Box ((PX I n width s em).dz i k = cond em (!(ftb I n width ((i:Int) - 1) k).over || decide (k = i)) (!(ftb I n width ((i:Int) - 1) k).over && decide ((ftb I n width ((i:Int) - 1) k).bad ≤ s.t))) := boxed rfl
 generalize (PX I n width s em).dz i k = D at *
 obtain ⟨gk,ek,-,ck⟩ := HE.out k hk
 have hbk:((lgs I n n).getD k 0:Nat) = bk I n k := (bk_bkn I n k hk).symm
 have hkk:(k:Int) < (nbk I n:Int) := by omega
 have hb0:Below w.heap.size w (w.alloc (.cells #[.int .i64 s.t,.int .i64 s.l,.int .i64 s.a,.int .i64 s.d,.int .i64 s.z,.int .i64 s.o,.int .i64 s.i] 25)) := (Below.refl _ _).alloc (Nat.le_refl _) _
 have hlt := World.block_lt_of_cell? w _ ck
 subst ek
 generalize ftb I n width ((i:Int) - 1) k = F at *
 obtain ⟨f0,f1,f2,f3,f4⟩ := F
 have HB0 := boxed hb0
 unfold Ft.val Stg.val at *
 simp only at HF HD
 by_cases hi0:i = 0
 ·subst hi0
  have hf := HF.out _ hb0 (-1) _ (bk_neg I n).symm hbk
  have e1:(((0:Nat):Int)) - 1 = -1 := rfl
  rw [e1]
  generalize nbk I n = m at *
  generalize (lgs I n n).getD k 0 = z at *
  clear HF HE hbk h he hb0
  go_enter Tryz.func52,Tryz.ntmps52
  go_wp2_with fail
  refine hf.mono ?_
  rintro e w1 ⟨rfl,hb1⟩
  have hc0:w1.cell? ⟨w.heap.size,0,none⟩ = some (.int .i64 s.t) := kept_first hb1 0
  have hz1 := World.block_lt_of_cell? w1 _ hc0
  have hz2:w.heap.size ≠ w1.heap.size := by simp only at hz1;omega
  have HB1 := boxed (below_step HB0.out (Nat.le_refl _) hb1)
  clear hb1 hf e1
  cases em <;> cases f4
  all_goals
   go_wp2_with fail
   go_ret
   refine ⟨ret_b9 ?_,HB1.out.alloc HB1.out.size _⟩
   rw [HD.out]
   first | rfl | (rw [Bool.eq_iff_iff];simp <;> omega)
 ·obtain ⟨i',rfl⟩:∃ i',i = i' + 1 := ⟨i - 1,by omega⟩
  obtain ⟨gi,ei,-,ci⟩ := HE.out i' (by show i' < nbk I n;omega)
  obtain rfl:gk = gi := by injection ei with ei;injection ei
  have hbi:((lgs I n n).getD i' 0:Nat) = bk I n (((i' + 1:Nat):Int) - 1) := by
   rw [show ((i' + 1:Nat):Int) - 1 = (i':Int) by omega];exact (bk_bkn I n i' (by omega)).symm
  have hf := HF.out _ hb0 _ _ hbi hbk
  have e1:((i' + 1:Nat):Int) - 1 = (i':Int) := by omega
  have hi1:i' < nbk I n := by omega
  have hi2:(i':Int) < (nbk I n:Int) := by omega
  have hi3:decide ((0:Int) ≤ (i':Int)) = true := decide_eq_true (by omega)
  rw [e1]
  generalize nbk I n = m at *
  generalize (lgs I n n).getD k 0 = z at *
  generalize (lgs I n n).getD i' 0 = z' at *
  clear HF HE hbk hbi h he hb0 e1 hi0 ei
  go_enter Tryz.func52,Tryz.ntmps52
  go_wp2_with fail
  refine hf.mono ?_
  rintro e w1 ⟨rfl,hb1⟩
  have hc0:w1.cell? ⟨w.heap.size,0,none⟩ = some (.int .i64 s.t) := kept_first hb1 0
  have hz1 := World.block_lt_of_cell? w1 _ hc0
  have hz2:w.heap.size ≠ w1.heap.size := by simp only at hz1;omega
  have HB1 := boxed (below_step HB0.out (Nat.le_refl _) hb1)
  clear hb1 hf
  cases em <;> cases f4
  all_goals
   go_wp2_with fail
   go_ret
   refine ⟨ret_b9 ?_,HB1.out.alloc HB1.out.size _⟩
   rw [HD.out]
   first | rfl | (rw [Bool.eq_iff_iff];simp <;> omega)
end
end Go.Proofs.YtcjcdpfjnomehaaGreat
namespace Go.Proofs.YtcjcdpfjnomehaaGreat
set_option maxRecDepth 100000
set_option maxHeartbeats 40000000
set_option linter.unusedSimpArgs false
set_option linter.unusedVariables false
def PrI (P:Pr) (I:Nat → Itm) (n:Nat) (X:Nat → Int) (i:Nat) (l:List Nat) (st:Nat) (a t:Int):Prop := l.length = i ∧ (∀ k,k < i → X k = (bkn I n (l.getD k 0):Nat)) ∧ pf P 0 (-1) 0 l = some (st,a,t)
section
variable {P:Pr} {I:Nat → Itm} {n:Nat} {X:Nat → Int} {i N:Nat} {l:List Nat} {st:Nat} {a t:Int}
theorem pri_zero (P:Pr) (I:Nat → Itm) (n:Nat) (X:Nat → Int):PrI P I n X 0 [] 0 (-1) 0 := ⟨rfl,fun k hk => by omega,rfl⟩
theorem getD_snoc (l:List Nat) (x k:Nat):(l ++ [x]).getD k 0 = if k < l.length then l.getD k 0 else if k = l.length then x else 0 := by
 simp only [List.getD_eq_getElem?_getD]
 by_cases h:k < l.length
 ·rw [if_pos h,List.getElem?_append_left h]
 ·rw [if_neg h,List.getElem?_append_right (by omega)]
  by_cases h2:k = l.length
  ·rw [if_pos h2,h2];simp
  ·rw [if_neg h2,List.getElem?_eq_none (by simp;omega)];rfl
theorem pri_next (h:PrI P I n X i l st a t) (k:Nat) (hm:mayL P st k = true) (hX:X i = (bkn I n k:Nat)):PrI P I n X (i + 1) (l ++ [k]) (k + 1) (P.kl st k) (tt t (P.ct st k a)) := by
 obtain ⟨h1,h2,h3⟩ := h
 refine ⟨by simp [h1],fun j hj => ?_,pf_snoc P l 0 (-1) 0 st a t k h3 hm⟩
 rw [getD_snoc]
 by_cases q:j < i
 ·rw [if_pos (by omega)];exact h2 j q
 ·rw [if_neg (by omega),if_pos (by omega)]
  have:j = i := by omega
  rw [this];exact hX
theorem pri_lt (hPm:P.m = nbk I n) (h:PrI P I n X i l st a t):st ≤ nbk I n ∧ ∀ k,k < l.length → l.getD k 0 < nbk I n := by
 obtain ⟨h1,h2,h3⟩ := h
 have h4 := pf_le P l 0 (-1) 0 st a t (Nat.zero_le _) h3
 rw [hPm] at h4
 refine ⟨h4.1,fun k hk => h4.2 _ ?_⟩
 rw [List.getD_eq_getElem?_getD,List.getElem?_eq_getElem hk]
 exact List.getElem_mem hk
theorem pri_split (hPm:P.m = nbk I n) (h:PrI P I n X i l st a t) (hi:i ≤ N) (l':List Nat) (hl:l'.length = N) (hX:∀ k,k < N → X k = (bkn I n (l'.getD k 0):Nat)) (c:Int) (hc:cw P 0 (-1) l' = some c):l' = l ++ l'.drop i := by
 obtain ⟨g1,g2⟩ := pri_lt hPm h
 obtain ⟨h1,h2,h3⟩ := h
 have e:l = l'.take i := by
  have ht:∀ k,k < i → (l'.take i).getD k 0 = l'.getD k 0 := fun k hk => by
   simp only [List.getD_eq_getElem?_getD]
   rw [List.getElem?_take_of_lt hk]
  refine way_one (I := I) (n := n) (by simp;omega) g2 (fun k hk => ?_) (fun k hk => ?_)
  ·rw [ht k (by omega)]
   exact hPm ▸ cw_lt hc k (by omega)
  ·rw [ht k (by omega)]
   have := h2 k (by omega)
   have := hX k (by omega)
   omega
 conv => lhs;rw [← List.take_append_drop i l']
 rw [← e]
theorem pri_bad (hN:Nn P) (hPm:P.m = nbk I n) (h:PrI P I n X i l st a t) (hi:i < N) (hno:∀ k,k < nbk I n → X i = (bkn I n k:Nat) → mayL P st k = true → False) (T:Int):Prc P I n X N T false := by
 refine .inr ⟨rfl,fun l' hl hX => ?_⟩
 cases hc:cw P 0 (-1) l' with
 | none => rfl
 | some c =>
  exfalso
  have e := pri_split hPm h (by omega) l' hl hX c hc
  have hlt := cw_lt hc i (by omega)
  have ed:l'.drop i = l'.getD i 0 :: l'.drop (i + 1) := by
   rw [List.drop_eq_getElem_cons (by omega),List.getD_eq_getElem?_getD,List.getElem?_eq_getElem (by omega)]
   rfl
  rw [e,ed] at hc
  obtain ⟨c',h5,-⟩ := (pf_cost hN h.2.2).2.2 _ hc
  obtain ⟨hs,-⟩ := cw_cons P _ _ _ _ _ h5
  exact hno _ (hPm ▸ hlt) (hX i hi) hs
theorem pri_end (hN:Nn P) (hPm:P.m = nbk I n) (h:PrI P I n X N l st a t):Prc P I n X N t (decide (st = nbk I n)) := by
 by_cases q:st = nbk I n
 ·rw [decide_eq_true q]
  refine .inl ⟨rfl,l,h.1,h.2.1,pf_end (a' := a) hN ?_⟩
  rw [hPm,← q]
  exact h.2.2
 ·rw [decide_eq_false q]
  refine .inr ⟨rfl,fun l' hl hX => ?_⟩
  cases hc:cw P 0 (-1) l' with
  | none => rfl
  | some c =>
   exfalso
   have e := pri_split hPm h (Nat.le_refl _) l' hl hX c hc
   rw [e] at hc
   obtain ⟨c',h5,-⟩ := (pf_cost hN h.2.2).2.2 _ hc
   rw [List.drop_eq_nil_of_le (by omega)] at h5
   simp only [cw] at h5
   rw [if_neg (by rw [hPm];exact q)] at h5
   cases h5
end
end Go.Proofs.YtcjcdpfjnomehaaGreat
namespace Go.Proofs.YtcjcdpfjnomehaaGreat
set_option maxRecDepth 100000
set_option maxHeartbeats 40000000
open Go.RowKit
set_option linter.unusedSimpArgs false
set_option linter.unusedVariables false
section
variable {S:Nat → Prop} {w:World} {ao xo:Option Addr} {n c xc N:Nat} {I:Nat → Itm} {width:Int} {s:Stg} {X:Nat → Int}
theorem px_m (I:Nat → Itm) (n:Nat) (width:Int) (s:Stg) (em:Bool):(PX I n width s em).m = nbk I n := rfl
theorem itb_at (I:Nat → Itm) (n j:Nat) (h:j < nbk I n):itb I n j = I (bkn I n j) ∧ bkn I n j < n := by
 obtain ⟨h1,h2,-⟩ := bkn_at I n j h
 refine ⟨?_,h2⟩
 unfold itb itm
 rw [h1,if_pos (by omega),Int.toNat_natCast]
theorem itb_neg (I:Nat → Itm) (n:Nat):(itb I n (-1)).flag = false := by
 unfold itb itm
 rw [bk_neg,if_neg (by omega)]
 rfl
def PrW (I:Nat → Itm) (n:Nat) (width:Int) (s:Stg) (em:Bool) (X:Nat → Int) (N:Nat) (w0:World) (tv cv fv wv iv:Value) (wr:World):Prop :=
 ∃ (i:Nat) (l:List Nat) (st:Nat) (a t:Int),i ≤ N ∧ st ≤ nbk I n ∧ (-1 ≤ a ∧ a ≤ 3) ∧ Box (PrI (PX I n width s em) I n X i l st a t) ∧ tv = .int .i64 t ∧ cv = .int .i64 a ∧ fv = .bool (itb I n ((st:Int) - 1)).flag ∧ wv = .int .i64 ((st:Int) - 1) ∧ iv = .int .i64 (i:Int) ∧ Box (Below w0.heap.size w0 wr)
theorem price_any (h:ItsAt S w ao n I) (hn:n ≤ 262144) (hok:∀ i,i < n → okI I i = true) (hw:1 ≤ width ∧ width ≤ 1073741824) (hs:okS s = true) (em:Bool) (hX:IntsAt w xo N X) (hN:N ≤ 262144) :
  Calls Tryz.prog 15 #[.slice ao n c,.slice xo N xc,.int .i64 width,s.val,.bool em] w fun e w' => ∃ T ok,e = .returned (.tuple #[.int .i64 T,.bool ok]) ∧ Prc (PX I n width s em) I n X N T ok ∧ Below w.heap.size w w' := by
 have hl := lgs_len I n n
 have hm:nbk I n ≤ 262144 := by unfold nbk;omega
 have HH := boxed h
 have HX := boxed hX
 have HNn := boxed (px_nn I n width s em hok hs)
 obtain ⟨w0,hw0⟩:∃ w0,w.alloc (.cells #[.int .i64 s.t,.int .i64 s.l,.int .i64 s.a,.int .i64 s.d,.int .i64 s.z,.int .i64 s.o,.int .i64 s.i] 25) = w0 := ⟨_,rfl⟩
 have hb0:Below w.heap.size w w0 := by rw [← hw0];exact (Below.refl _ _).alloc (Nat.le_refl _) _
 have HC0:Box (∀ W,Below w0.heap.size w0 W → (W.cell? ⟨w.heap.size,0,none⟩ = some (.int .i64 s.t) ∧ W.cell? ⟨w.heap.size,1,none⟩ = some (.int .i64 s.l) ∧ W.cell? ⟨w.heap.size,2,none⟩ = some (.int .i64 s.a) ∧ W.cell? ⟨w.heap.size,3,none⟩ = some (.int .i64 s.d) ∧ W.cell? ⟨w.heap.size,4,none⟩ = some (.int .i64 s.z) ∧ W.cell? ⟨w.heap.size,5,none⟩ = some (.int .i64 s.o) ∧ W.cell? ⟨w.heap.size,6,none⟩ = some (.int .i64 s.i)) ∧ Below w.heap.size w W) := boxed (fun W hb => by
  subst hw0
  exact ⟨⟨kept_first hb 0,kept_first hb 1,kept_first hb 2,kept_first hb 3,kept_first hb 4,kept_first hb 5,kept_first hb 6⟩,below_step hb0 (Nat.le_refl _) hb⟩)
 have hL := reflegal8_any S ao n c I w0 (h.below hb0) hn
 unfold Stg.val
 clear h hX
 go_enter Tryz.func15,Tryz.ntmps15
 go_wp2_with fail
 refine hL.mono ?_
 rintro e w1 ⟨v1,rfl,ho,hb1⟩
 rw [show (lgs I n n).length = nbk I n from rfl] at ho
 obtain ⟨eo,ec,rfl⟩ := own_shape ho
 have HE := boxed (own_nat ho (show (lgs I n n).length = nbk I n from rfl))
 have HB1 := boxed hb1
 have HB01 := boxed hb0
 clear ho hb1 hL hb0
 generalize hM:nbk I n = m at *
 replace hM := boxed hM
 have HW:Box (∀ W,Below w1.heap.size w1 W → Below w.heap.size w W) := boxed (fun W hb => (HC0.out _ (below_step HB1.out (Nat.le_refl _) hb)).2)
 go_wp2_with fail
 go_loopw [13,14,15,16,17] (PrW I n width s em X N w1) (fun _ _ _ _ iv _ => N - (intOf iv).toNat)
 case atStart => exact ⟨0,[],0,-1,0,Nat.zero_le _,Nat.zero_le _,by omega,boxed (pri_zero _ _ _ _),rfl,rfl,by rw [show ((0:Nat):Int) - 1 = -1 from rfl,itb_neg],rfl,rfl,boxed (Below.refl _ _)⟩
 case round =>
  obtain ⟨i,l,st,a,t,hi,hst,ha,HP,rfl,rfl,rfl,rfl,rfl,HBr⟩ := hrel
  rw [hM.out] at hst
  by_cases hlt:i < N
  ·have HBw := boxed (HW.out _ HBr.out)
   obtain ⟨xb,xf,ex,cx,hxr⟩ := (HX.out.below HBw.out) i hlt
   subst ex
   have t1:decide ((i:Int) < (N:Int)) = true := decide_eq_true (by omega)
   have t1':decide (i < N) = true := decide_eq_true hlt
   have hpl := place_any (fun b => w0.heap.size ≤ b) eo (lgs I n n) ec (X i) wr (HE.out.below HBr.out) (by omega)
   rw [show (lgs I n n).length = m from hM.out] at hpl
   generalize hxi:X i = x at *
   replace hxi := boxed hxi
   go_wp2_with fail
   refine hpl.mono ?_
   rintro e w2 ⟨r,rfl,hr,hb2⟩
   have HB2 := boxed (below_step HBr.out (Nat.le_refl _) hb2)
   clear hb2 hpl
   by_cases hbad:r ≤ (st:Int) - 1
   ·have t2:decide (r ≤ (st:Int) - 1) = true := decide_eq_true hbad
    have HQ:Box (Prc (PX I n width s em) I n X N 0 false) := boxed (pri_bad HNn.out rfl HP.out hlt (fun k hk hx hmy => by
     obtain ⟨q1,q2,-,-⟩ := (mayL_iff _ _ _).1 hmy
     rcases hr with ⟨-,hr⟩ | ⟨k',h1,h2,h3⟩
     ·exact hr k (by rw [← hM.out];exact hk) (by have := hxi.out;rw [← this,hx];rfl)
     ·have:k = k' := bkn_inj I n k k' hk (by rw [hM.out];exact h1) (by have := hxi.out;unfold bkn at hx ⊢;omega)
      omega) 0)
    clear hr HP
    go_wp2_with fail
    go_ret2
    exact ⟨0,false,rfl,HQ.out,HW.out _ HB2.out⟩
   have t2:decide (r ≤ (st:Int) - 1) = false := decide_eq_false hbad
   obtain ⟨k,hk1,hk2,hk3⟩:∃ k:Nat,k < m ∧ r = (k:Int) ∧ x = (bkn I n k:Nat) := by
    rcases hr with ⟨h1,-⟩ | ⟨k',h1,h2,h3⟩
    ·omega
    ·exact ⟨k',h1,h2,h3.symm⟩
   subst hk2
   replace hk3 := boxed hk3
   clear hr
   have hstk:st ≤ k := by omega
   have HKX:Box (∀ k',k' < nbk I n → X i = (bkn I n k':Nat) → k' = k) := boxed (fun k' h1 h2 => bkn_inj I n k' k h1 (by rw [hM.out];exact hk1) (by have := hxi.out;have := hk3.out;omega))
   have HDo := boxed (fun W (hb:Below w1.heap.size w1 W) => does_any (S := S) (S' := fun b => w0.heap.size ≤ b) (ao := ao) (eo := eo) (c := c) (ec := ec) (width := width) (s := s) (HH.out.below (HW.out _ hb)) hn hok (HE.out.below hb) hw st k (by rw [hM.out];exact hst) (by rw [hM.out];exact hk1) em)
   rw [hM.out] at HDo
   unfold Stg.val at HDo
   obtain ⟨⟨s0,s1,s2,s3,s4,s5,s6⟩,-⟩ := HC0.out _ (below_step HB1.out (Nat.le_refl _) HB2.out)
   cases hD:(PX I n width s em).dz st k
   ·have HQ:Box (Prc (PX I n width s em) I n X N 0 false) := boxed (pri_bad HNn.out rfl HP.out hlt (fun k' hk' hx hmy => by
     have := HKX.out k' hk' hx
     subst this
     obtain ⟨-,-,q3,-⟩ := (mayL_iff _ _ _).1 hmy
     rw [hD] at q3
     cases q3) 0)
    rw [hD] at HDo
    have hd := HDo.out _ HB2.out
    clear HP HDo hD
    go_wp2_with (go_at_call 52;refine hd.mono ?_;rintro e w3 ⟨rfl,hb3⟩;have HB3 := boxed (below_step HB2.out (Nat.le_refl _) hb3);clear hb3)
    go_ret2
    exact ⟨0,false,rfl,HQ.out,HW.out _ HB3.out⟩
   have HDz := boxed hD
   rw [hD] at HDo
   have hd := HDo.out _ HB2.out
   clear HDo hD
   have u0:((st:Int) - 1) + 1 = (st:Int) := by omega
   go_wp2_with (go_at_call 52;refine hd.mono ?_;rintro e w3 ⟨rfl,hb3⟩;have HB3 := boxed (below_step HB2.out (Nat.le_refl _) hb3);clear hb3)
   clear s0 s1 s2 s3 s4 s5 s6 cx
   go_loopw [19] (fun nv wq => ∃ j:Nat,st ≤ j ∧ j ≤ k ∧ nv = .int .i64 (j:Int) ∧ Box (∀ q,q < j → st ≤ q → forc (itb I n q) = false) ∧ Box (Below w1.heap.size w1 wq)) (fun nv _ => k - (intOf nv).toNat)
   case atStart => exact ⟨st,Nat.le_refl _,hstk,by go_num,boxed (fun q h1 h2 => by omega),HB3⟩
   case round =>
    obtain ⟨j,hj1,hj2,rfl,HJ,HBq⟩ := hrel
    have HBqw := boxed (HW.out _ HBq.out)
    by_cases hjk:j < k
    ·obtain ⟨ge,ee,-,ce⟩ := HE.out j (by show j < nbk I n;rw [hM.out];omega)
     replace ce := hold HBq.out ce
     obtain ⟨hx1,hx2⟩ := itb_at I n j (by rw [hM.out];omega)
     obtain ⟨ib,ifo,ei,-,x0,x1,x2,x3,x4,x5,x6,x7,x8⟩ := (HH.out.below HBqw.out) _ hx2
     subst ee
     subst ei
     have hfc := fun W => refforced_any (itb I n j) W
     rw [← hx1] at x0 x1 x2 x3 x4 x5 x6 x7 x8
     have t3:decide ((j:Int) < (k:Int)) = true := decide_eq_true (by omega)
     have hjm:j < m := by omega
     have hjm2:(j:Int) < (m:Int) := by omega
     have hx3:((bkn I n j:Nat):Int) < (n:Int) := by omega
     rw [show (lgs I n n).getD j 0 = bkn I n j from rfl] at ce
     unfold Itm.val at hfc
     clear hx1
     cases hfo:forc (itb I n j)
     ·have HJ2:Box (∀ q,q < j + 1 → st ≤ q → forc (itb I n q) = false) := boxed (fun q h1 h2 => by
       by_cases e:q = j
       ·rw [e];exact hfo
       ·exact HJ.out q (by omega) h2)
      rw [hfo] at hfc
      clear hfo HJ HP
      generalize itb I n j = y at *
      generalize bkn I n j = z at *
      go_wp2_with (go_at_call 37;refine (hfc _).mono ?_;rintro e w4 ⟨rfl,hb4⟩;have HB4 := boxed (below_step HBq.out (Nat.le_refl _) hb4);clear hb4)
      go_roundw
      case rel => exact ⟨j + 1,by omega,by omega,by go_num,HJ2,HB4⟩
      case measure => simp [intOf];omega
     ·have HQ:Box (Prc (PX I n width s em) I n X N 0 false) := boxed (pri_bad HNn.out rfl HP.out hlt (fun k' hk' hx hmy => by
       have := HKX.out k' hk' hx
       subst this
       obtain ⟨-,-,-,q4⟩ := (mayL_iff _ _ _).1 hmy
       have := q4 j hjk hj1
       change forc (itb I n j) = false at this
       rw [hfo] at this
       cases this) 0)
      rw [hfo] at hfc
      clear hfo HJ HP
      generalize itb I n j = y at *
      generalize bkn I n j = z at *
      go_wp2_with (go_at_call 37;refine (hfc _).mono ?_;rintro e w4 ⟨rfl,hb4⟩;have HB4 := boxed (below_step HBq.out (Nat.le_refl _) hb4);clear hb4)
      go_ret2
      exact ⟨0,false,rfl,HQ.out,HW.out _ HB4.out⟩
    ·obtain rfl:j = k := by omega
     have t3:decide ((j:Int) < (j:Int)) = false := decide_eq_false (by omega)
     have HMy:Box (mayL (PX I n width s em) st j = true) := boxed ((mayL_iff _ _ _).2 ⟨hj1,by show j < nbk I n;rw [hM.out];exact hk1,HDz.out,HJ.out⟩)
     have HNx := boxed (pri_next HP.out j HMy.out (by rw [hxi.out,hk3.out]))
     clear HDz HJ HP HKX
     obtain ⟨hx1,hx2⟩ := itb_at I n j (by rw [hM.out];exact hk1)
     have hcl := ftb_cls I n width ((st:Int) - 1) j
     have HFi := boxed (fun W (hb:Below w1.heap.size w1 W) (a b:Int) (h1:a = bk I n ((st:Int) - 1)) (h2:b = bk I n j) => reffit9_any (c := c) (HH.out.below (HW.out _ hb)) hn hok hw ((st:Int) - 1) j a b h1 h2)
     have hco := fun W => refcost_any s (ftb I n width ((st:Int) - 1) j) (itb I n j) a (itb I n ((st:Int) - 1)).flag (decide (j + 1 = nbk I n)) W (by omega) (by omega)
     have HCt:Box ((PX I n width s em).ct st j a = cst s (ftb I n width ((st:Int) - 1) j) (itb I n j) a (itb I n ((st:Int) - 1)).flag (decide (j + 1 = nbk I n))) := boxed rfl
     have HKl:Box ((PX I n width s em).kl st j = (ftb I n width ((st:Int) - 1) j).cls) := boxed rfl
     have t4:((j:Int) == (m:Int) - 1) = decide (j + 1 = nbk I n) := by rw [Bool.eq_iff_iff,hM.out];simp;omega
     have HFl:Box ((itb I n (((j + 1:Nat):Int) - 1)).flag = (itb I n j).flag) := boxed (by rw [show ((j + 1:Nat):Int) - 1 = (j:Int) by omega])
     have HNx2:Box (∃ l',PrI (PX I n width s em) I n X (i + 1) l' (j + 1) ((PX I n width s em).kl st j) (tt t ((PX I n width s em).ct st j a))) := boxed ⟨_,HNx.out⟩
     generalize (PX I n width s em).ct st j a = ct at *
     generalize (PX I n width s em).kl st j = kl at *
     rw [← HCt.out] at hco
     have hbj:Box (x = bk I n j) := boxed (by rw [hk3.out];exact (bk_bkn I n j (by rw [hM.out];exact hk1)).symm)
     have hto := fun W => reftotal_any t ct W
     clear HNx HMy HCt
     by_cases hst0:st = 0
     ·subst hst0
      have hfi := HFi.out _ HBq.out (-1) x (by rw [show ((0:Nat):Int) - 1 = -1 from rfl,bk_neg]) hbj.out
      have u1:decide ((0:Int) ≤ (((0:Nat):Int) - 1)) = false := rfl
      obtain ⟨xb',xf',ex',cx,-⟩ := (HX.out.below HBqw.out) i hlt
      obtain ⟨rfl,rfl⟩:xb = xb' ∧ xf = xf' := by injection ex' with ex';injection ex' with h1 h2;exact ⟨h1,h2⟩
      rw [hxi.out] at cx
      generalize (itb I n (((0:Nat):Int) - 1)).flag = fl at *
      generalize ftb I n width (((0:Nat):Int) - 1) j = F at *
      obtain ⟨f0,f1,f2,f3,f4⟩ := F
      unfold Ft.val at hfi hco
      simp only at hfi hco hcl HKl
      go_wp2_with fail
      refine hfi.mono ?_
      rintro e w5 ⟨rfl,hb5⟩
      have HB5 := boxed (below_step HBq.out (Nat.le_refl _) hb5)
      have HBw5 := boxed (HW.out _ HB5.out)
      obtain ⟨xb',xf',ex',cx5,-⟩ := (HX.out.below HBw5.out) i hlt
      obtain ⟨rfl,rfl⟩:xb = xb' ∧ xf = xf' := by injection ex' with ex';injection ex' with h1 h2;exact ⟨h1,h2⟩
      rw [hxi.out,hk3.out] at cx5
      obtain ⟨ib,ifo,ei,-,x0,x1,x2,x3,x4,x5,x6,x7,x8⟩ := (HH.out.below HBw5.out) _ hx2
      subst ei
      obtain ⟨⟨s0,s1,s2,s3,s4,s5,s6⟩,-⟩ := HC0.out _ (below_step HB1.out (Nat.le_refl _) HB5.out)
      have hx3:((bkn I n j:Nat):Int) < (n:Int) := by omega
      rw [← hx1] at x0 x1 x2 x3 x4 x5 x6 x7 x8
      have hz5 := World.block_lt_of_cell? w5 _ s0
      have hz6:w.heap.size ≠ w5.heap.size := by simp only at hz5;omega
      have hz7 := World.block_lt_of_cell? w5 _ x0
      have hz8 := World.block_lt_of_cell? w5 _ cx5
      simp only at hz5 hz7 hz8
      have hz7':ib ≠ w5.heap.size := by omega
      have hz8':xb ≠ w5.heap.size := by omega
      clear HX HH HE HC0 HNn
      unfold Itm.val Stg.val at hco
      clear hb5 hfi HFi cx hx1
      generalize itb I n j = y at *
      generalize bkn I n j = z at *
      generalize decide (j + 1 = nbk I n) = lb at *
      go_wp2_with fail
      obtain ⟨q0,q1,q2,q3⟩ := laid2 w5 (.cells #[.int .i64 f0,.int .i64 f1,.int .i64 f2,.int .i64 f3,.bool f4] 105) (.cells #[.int .i64 y.k,.int .i64 y.w,.int .i64 y.st,.int .i64 y.sh,.bool y.fill,.int .i64 y.c,.bool y.flag,.int .i64 y.fr,.int .i64 y.to] 80)
      refine (hco _).mono ?_
      rintro e w6 ⟨rfl,hb6⟩
      have p3:w6.cell? ⟨w5.heap.size,3,none⟩ = some (.int .i64 f3) := row_cell ((hb6.block w5.heap.size (by rw [q3];omega)).trans q0) 3 _ rfl
      have p6:w6.cell? ⟨w5.heap.size + 1,6,none⟩ = some (.bool y.flag) := row_cell ((hb6.block (w5.heap.size + 1) (by rw [q3];omega)).trans q1) 6 _ rfl
      have HB6:Box (Below w1.heap.size w1 w6) := boxed (HB5.out.trans ((q2.trans (hb6.mono q2.size)).mono HB5.out.size))
      clear hb6 q0 q1 q2 q3 hco s0 s1 s2 s3 s4 s5 s6 x0 x1 x2 x3 x4 x5 x6 x7 x8 cx5
      go_wp2_with (go_at_call 54;refine (hto _).mono ?_;rintro e w' ⟨rfl,hw'⟩;subst w')
      go_quiet (fail)
      have HB7:Box (Below w1.heap.size w1 (w6.drewN nq)) := boxed (HB6.out.trans (bel_drewN _ _ _))
      go_wp2_with fail
      go_roundw
      case rel =>
       obtain ⟨l',hl'⟩ := HNx2.out
       exact ⟨i + 1,l',j + 1,kl,tt t ct,by omega,by rw [hM.out];omega,by rw [HKl.out];omega,boxed hl',rfl,by rw [HKl.out],by rw [HFl.out],congrArg _ (by omega),by go_num,HB7⟩
      case measure => simp [intOf];omega
     ·obtain ⟨st',rfl⟩:∃ st',st = st' + 1 := ⟨st - 1,by omega⟩
      have e1:((st' + 1:Nat):Int) - 1 = (st':Int) := by omega
      obtain ⟨ge,ee,-,ce⟩ := HE.out st' (by show st' < nbk I n;rw [hM.out];omega)
      replace ce := hold HBq.out ce
      rw [show (lgs I n n).getD st' 0 = bkn I n st' from rfl] at ce
      subst ee
      have hfi := HFi.out _ HBq.out (bkn I n st':Nat) x (by rw [e1];exact (bk_bkn I n st' (by rw [hM.out];omega)).symm) hbj.out
      have u1:decide ((0:Int) ≤ (st':Int)) = true := decide_eq_true (by omega)
      have u2:st' < m := by omega
      have u3:(st':Int) < (m:Int) := by omega
      rw [e1] at HKl hfi hco hcl ⊢
      generalize bkn I n st' = zs at *
      obtain ⟨xb',xf',ex',cx,-⟩ := (HX.out.below HBqw.out) i hlt
      obtain ⟨rfl,rfl⟩:xb = xb' ∧ xf = xf' := by injection ex' with ex';injection ex' with h1 h2;exact ⟨h1,h2⟩
      rw [hxi.out] at cx
      generalize (itb I n (st':Int)).flag = fl at *
      generalize ftb I n width (st':Int) j = F at *
      obtain ⟨f0,f1,f2,f3,f4⟩ := F
      unfold Ft.val at hfi hco
      simp only at hfi hco hcl HKl
      go_wp2_with fail
      refine hfi.mono ?_
      rintro e w5 ⟨rfl,hb5⟩
      have HB5 := boxed (below_step HBq.out (Nat.le_refl _) hb5)
      have HBw5 := boxed (HW.out _ HB5.out)
      obtain ⟨xb',xf',ex',cx5,-⟩ := (HX.out.below HBw5.out) i hlt
      obtain ⟨rfl,rfl⟩:xb = xb' ∧ xf = xf' := by injection ex' with ex';injection ex' with h1 h2;exact ⟨h1,h2⟩
      rw [hxi.out,hk3.out] at cx5
      obtain ⟨ib,ifo,ei,-,x0,x1,x2,x3,x4,x5,x6,x7,x8⟩ := (HH.out.below HBw5.out) _ hx2
      subst ei
      obtain ⟨⟨s0,s1,s2,s3,s4,s5,s6⟩,-⟩ := HC0.out _ (below_step HB1.out (Nat.le_refl _) HB5.out)
      have hx3:((bkn I n j:Nat):Int) < (n:Int) := by omega
      rw [← hx1] at x0 x1 x2 x3 x4 x5 x6 x7 x8
      have hz5 := World.block_lt_of_cell? w5 _ s0
      have hz6:w.heap.size ≠ w5.heap.size := by simp only at hz5;omega
      have hz7 := World.block_lt_of_cell? w5 _ x0
      have hz8 := World.block_lt_of_cell? w5 _ cx5
      simp only at hz5 hz7 hz8
      have hz7':ib ≠ w5.heap.size := by omega
      have hz8':xb ≠ w5.heap.size := by omega
      clear HX HH HE HC0 HNn ce e1
      unfold Itm.val Stg.val at hco
      clear hb5 hfi HFi cx hx1
      generalize itb I n j = y at *
      generalize bkn I n j = z at *
      generalize decide (j + 1 = nbk I n) = lb at *
      go_wp2_with fail
      obtain ⟨q0,q1,q2,q3⟩ := laid2 w5 (.cells #[.int .i64 f0,.int .i64 f1,.int .i64 f2,.int .i64 f3,.bool f4] 105) (.cells #[.int .i64 y.k,.int .i64 y.w,.int .i64 y.st,.int .i64 y.sh,.bool y.fill,.int .i64 y.c,.bool y.flag,.int .i64 y.fr,.int .i64 y.to] 80)
      refine (hco _).mono ?_
      rintro e w6 ⟨rfl,hb6⟩
      have p3:w6.cell? ⟨w5.heap.size,3,none⟩ = some (.int .i64 f3) := row_cell ((hb6.block w5.heap.size (by rw [q3];omega)).trans q0) 3 _ rfl
      have p6:w6.cell? ⟨w5.heap.size + 1,6,none⟩ = some (.bool y.flag) := row_cell ((hb6.block (w5.heap.size + 1) (by rw [q3];omega)).trans q1) 6 _ rfl
      have HB6:Box (Below w1.heap.size w1 w6) := boxed (HB5.out.trans ((q2.trans (hb6.mono q2.size)).mono HB5.out.size))
      clear hb6 q0 q1 q2 q3 hco s0 s1 s2 s3 s4 s5 s6 x0 x1 x2 x3 x4 x5 x6 x7 x8 cx5
      go_wp2_with (go_at_call 54;refine (hto _).mono ?_;rintro e w' ⟨rfl,hw'⟩;subst w')
      go_quiet (fail)
      have HB7:Box (Below w1.heap.size w1 (w6.drewN nq)) := boxed (HB6.out.trans (bel_drewN _ _ _))
      go_wp2_with fail
      go_roundw
      case rel =>
       obtain ⟨l',hl'⟩ := HNx2.out
       exact ⟨i + 1,l',j + 1,kl,tt t ct,by omega,by rw [hM.out];omega,by rw [HKl.out];omega,boxed hl',rfl,by rw [HKl.out],by rw [HFl.out],congrArg _ (by omega),by go_num,HB7⟩
      case measure => simp [intOf];omega
  ·have hiN:i = N := by omega
   subst hiN
   have HQ := boxed (pri_end HNn.out rfl HP.out)
   have t1:decide ((i:Int) < (i:Int)) = false := decide_eq_false (by omega)
   have t1':decide (i < i) = false := decide_eq_false (by omega)
   have t3:((st:Int) - 1 == (m:Int) - 1) = decide (st = nbk I n) := by rw [Bool.eq_iff_iff,hM.out];simp;omega
   generalize decide (st = nbk I n) = D at *
   clear HP
   go_wp2_with fail
   go_ret2
   exact ⟨t,D,rfl,HQ.out,HW.out _ HBr.out⟩
end
end Go.Proofs.YtcjcdpfjnomehaaGreat
namespace Go.Proofs.YtcjcdpfjnomehaaGreat
set_option maxRecDepth 100000
set_option maxHeartbeats 40000000
set_option linter.unusedSimpArgs false
set_option linter.unusedVariables false
theorem nat_ints {S:Nat → Prop} {w:World} {ao:Option Addr} {L:List Nat} (h:NAt S w ao L) (hb:∀ k,k < L.length → L.getD k 0 ≤ 262144):IntsAt w ao L.length (fun k => (L.getD k 0:Nat)) := fun i hi => by
 obtain ⟨b,e,-,hc⟩ := h i hi
 have := hb i hi
 refine ⟨b,0,e,?_,?_⟩
 ·rw [Nat.zero_add];exact hc
 ·show I64 ((L.getD i 0:Nat):Int)
  unfold I64;omega
theorem map_getD (l:List Nat) (f:Nat → Nat) (k:Nat) (hk:k < l.length):(l.map f).getD k 0 = f (l.getD k 0) := by
 rw [List.getD_eq_getElem?_getD,List.getElem?_map,List.getElem?_eq_getElem hk,List.getD_eq_getElem?_getD,List.getElem?_eq_getElem hk];rfl
open Go.RowKit
theorem run_append_none9 {P:Program} {w:World} (base:Nat) (t ty e:TypeId) (i:TypeInfo) (size c:Nat) (ht:P.underlying t = some (.slice e)) (hi:P.info? e = some i)
  (v:Value) (n:Nat) (xs:List Value) (hown:w.ownsRow base e size v n xs) :
  (Builtin.append_ #[t,t] ty #[v,.slice none 0 c]).run P w = .ok v w := by
 rcases hown.2 with ⟨rfl,rfl⟩ | ⟨g,cap,cur,rfl,_,_,hnc,_⟩
 ·simp [Builtin.append_,run_underlying ht,sizeOf,typeInfo,hi,Builtin.lenOf,Builtin.firstCells]
 ·simp [Builtin.append_,run_underlying ht,sizeOf,typeInfo,hi,Builtin.lenOf,Builtin.firstCells,hnc,storeCells]
def Src9 (w:World) (ao:Option Addr) (m:Nat) (news:List Value):Prop := (ao = none ∧ m = 0 ∧ news = []) ∨ ∃ ad:Addr,ao = some ad ∧ news.length = m * 1 ∧ ∀ j u,news[j]? = some u → w.cell? (ad.add j) = some u
theorem step_append_src9 {P:Program} {w:World} {ops:Array Oper} {o:Oper} {a:Act} {K:Act → World → Prop} {Q:Exit → Act → World → Prop} {E:Prop} (hgd:o.guard = none) (s x:Operand) (t:TypeId)
  (ho:o.op = .call { callee := .builtin .append,args := #[s,x],argTypes := #[t,t] })
  (base:Nat) (e:TypeId) (i:TypeInfo) (z:Value) (bytes:Nat) (ht:P.underlying t = some (.slice e)) (hi:P.info? e = some i) (hz:i.zero = some z)
  (hsize:i.size = 1) (hby:i.bytes = bytes) (hzs:z.cells.size = 1)
  (v:Value) (n:Nat) (xs:List Value) (hs:a.eval s = v) (hown:w.ownsRow base e 1 v n xs)
  (ao:Option Addr) (m c:Nat) (news:List Value) (hx:a.eval x = .slice ao m c) (hsrc:Src9 w ao m news) (h1:∀ u ∈ news,u.oneCell' = true)
  (h63:n + m ≤ maxLen) (hbytes:(n + m) * bytes ≤ 140737488355328) (hbase:base ≤ w.heap.size)
  (h:∀ v' w',w'.ownsRow base e 1 v' (n + m) (xs ++ news) → w.grownBy w' v.ownBlock → K (a.put o.dst v') w') :
  if Region.wanted o (yielded ops a.tmps) = true then Oper.wp P o a w K Q else E := by
 have hw:Region.wanted o (yielded ops a.tmps) = true := by simp [Region.wanted,hgd]
 rw [if_pos hw]
 rcases hsrc with ⟨rfl,rfl,rfl⟩ | ⟨ad,rfl,hl,hnews⟩
 ·have hrun := run_append_none9 (P := P) (w := w) base t o.type e i 1 c ht hi v n xs hown
  unfold Oper.wp
  simp [execOp,ho,resolve,invoke,builtin,hs,hx,hrun,Result.andThen]
  exact h v w (by simpa using hown) (World.grownBy.refl _ _)
 ·exact wp_append_own w s x t ho base e i z 1 bytes ht hi hz hsize hby hzs (by decide) v n xs hs hown ad m c news hx hl hnews h1 h63 hbytes hbase fun v' w' h2 h3 _ => h v' w' h2 h3
theorem NAt.src9 {S:Nat → Prop} {w:World} {ao:Option Addr} {L:List Nat} (h:NAt S w ao L) (m:Nat) (hm:m ≤ L.length):Src9 w ao m (ncs (L.take m)) := by
 cases ao with
 | none =>
  have hz:L.length = 0 := by
   by_cases c:L.length = 0
   ·exact c
   ·obtain ⟨b,e,-⟩ := h.form (by omega)
    cases e
  have:m = 0 := by omega
  subst this
  exact .inl ⟨rfl,rfl,rfl⟩
 | some ad =>
  refine .inr ⟨ad,rfl,by simp [ncs];omega,?_⟩
  intro j u hj
  have hl:j < (ncs (L.take m)).length := (List.getElem?_eq_some_iff.1 hj).1
  rw [ncs_len,List.length_take] at hl
  obtain ⟨b,e,-,c⟩ := h j (by omega)
  injection e with e
  subst e
  rw [ncs_get _ _ (by rw [List.length_take];omega)] at hj
  injection hj with hj
  rw [Addr.add_lit,Nat.zero_add,c,← hj]
  simp [List.getElem?_take,show j < m by omega]
theorem NAt.under9 {S:Nat → Prop} {w:World} {ao:Option Addr} {L:List Nat} (h:NAt S w ao L):Src9 w ao L.length (ncs L) := by
 have := h.src9 L.length (Nat.le_refl _)
 rwa [List.take_length] at this
theorem at_world9 {P:Program} {o:Oper} {a:Act} {K:Act → World → Prop} {Q:Exit → Act → World → Prop} {E c:Prop} [Decidable c] (w:World) (h:if c then Oper.wp P o a w K Q else E):if c then Oper.wp P o a w K Q else E := h
theorem own_none9 (W:World) (base g:Nat) (hb:base ≤ g) (h:W.heap[g]? = some (.cells #[] 3 (0,0))):W.ownsRow base 3 1 (.slice (some ⟨g,0,none⟩) 0 0) 0 [] :=
 ⟨rfl,.inr ⟨g,0,#[],rfl,hb,h,Nat.le_refl _,Nat.zero_le _,rfl,rfl⟩⟩
end Go.Proofs.YtcjcdpfjnomehaaGreat
