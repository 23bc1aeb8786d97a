/- What the document's place, Does and Before answer. -/
import Derived.Laws.MakeOwn
import Derived.Test.YtcjcdpfjnomehabGreatPk33
import Derived.Test.YtcjcdpfjnomehabGreatPk38
import Derived.Test.YtcjcdpfjnomehabGreatPk28
import Derived.Test.YtcjcdpfjnomehabGreatPk23
namespace Go.Proofs.YtcjcdpfjnomehabGreat
set_option maxRecDepth 100000
set_option maxHeartbeats 40000000
open Go.RowKit
set_option linter.unusedSimpArgs false
set_option linter.unusedVariables false
theorem ret_b9 {a b : Bool} (h : a = b) : Ending.returned (.bool a) = Ending.returned (.bool b) := by rw [h]
section
variable {S S' : Nat → Prop} {w : World} {ao eo : Option Addr} {n c ec : Nat} {I : Nat → Itm} {width : Int} {s : Stg}
theorem bk_neg (I : Nat → Itm) (n : Nat) : bk I n (-1) = -1 := by unfold bk endN;rw [if_neg (by omega)]
theorem reffit9_any (h : ItsAt S w ao n I) (hn : n ≤ 262144) (hok : ∀ i,i < n → okI I i = true) (hw : 1 ≤ width ∧ width ≤ 1073741824) (i k : Int) (a b : Int) (ha : a = bk I n i) (hb : b = bk I n k) :
  Calls Tryz.prog 39 #[.slice ao n c,.int .i64 a,.int .i64 b,.int .i64 width] w fun e w' => e = .returned (ftb I n width i k).val ∧ Below w.heap.size w w' := by
 subst ha;subst hb
 exact reffit_any S ao n c I w h hn hok _ _ width (by omega)
theorem does_any (h : ItsAt S w ao n I) (hn : n ≤ 262144) (hok : ∀ i,i < n → okI I i = true) (he : NAt S' w eo (lgs I n n)) (hw : 1 ≤ width ∧ width ≤ 1073741824) (i k : Nat) (hi : i ≤ nbk I n) (hk : k < nbk I n) (em : Bool) :
  Calls Tryz.prog 73 #[.slice ao n c,.slice eo (nbk I n) ec,.int .i64 ((i : Int) - 1),.int .i64 (k : Int),.int .i64 width,s.val,.bool em] w fun e w' => e = .returned (.bool ((PX I n width s em).dz i k)) ∧ Below w.heap.size w w' := by
 have hl := lgs_len I n n
 have hm : nbk I n ≤ 262144 := by unfold nbk;omega
 have HF := boxed (fun W (hb : Below w.heap.size w W) (a b : Int) (ha : a = bk I n ((i : Int) - 1)) (hb' : b = bk I n k) => reffit9_any (c := c) (h.below hb) hn hok hw ((i : Int) - 1) k a b ha hb')
 have HE := boxed he
 have HD : Box ((PX I n width s em).dz i k = cond em (!(ftb I n width ((i : Int) - 1) k).over || decide (k = i)) (!(ftb I n width ((i : Int) - 1) k).over && decide ((ftb I n width ((i : Int) - 1) k).bad ≤ s.t))) := boxed rfl
 generalize (PX I n width s em).dz i k = D at *
 obtain ⟨gk,ek,-,ck⟩ := HE.out k hk
 have hbk : ((lgs I n n).getD k 0 : Nat) = bk I n k := (bk_bkn I n k hk).symm
 have hkk : (k : Int) < (nbk I n : Int) := by omega
 have hb0 : Below w.heap.size w (w.alloc (.cells #[.int .i64 s.t,.int .i64 s.l,.int .i64 s.a,.int .i64 s.d,.int .i64 s.z,.int .i64 s.o,.int .i64 s.i] 25)) := (Below.refl _ _).alloc (Nat.le_refl _) _
 have hlt := World.block_lt_of_cell? w _ ck
 subst ek
 generalize ftb I n width ((i : Int) - 1) k = F at *
 obtain ⟨f0,f1,f2,f3,f4⟩ := F
 have HB0 := boxed hb0
 unfold Ft.val Stg.val at *
 simp only at HF HD
 by_cases hi0 : i = 0
 ·subst hi0
  have hf := HF.out _ hb0 (-1) _ (bk_neg I n).symm hbk
  have e1 : (((0 : Nat) : Int)) - 1 = -1 := rfl
  rw [e1]
  generalize nbk I n = m at *
  generalize (lgs I n n).getD k 0 = z at *
  clear HF HE hbk h he hb0
  go_enter Tryz.func73,Tryz.ntmps73
  go_wp2_with fail
  refine hf.mono ?_
  rintro e w1 ⟨rfl,hb1⟩
  have hc0 : w1.cell? ⟨w.heap.size,0,none⟩ = some (.int .i64 s.t) := kept_first hb1 0
  have hz1 := World.block_lt_of_cell? w1 _ hc0
  have hz2 : w.heap.size ≠ w1.heap.size := by simp only at hz1;omega
  have HB1 := boxed (below_step HB0.out (Nat.le_refl _) hb1)
  clear hb1 hf e1
  cases em <;> cases f4
  all_goals
   go_wp2_with fail
   go_ret
   refine ⟨ret_b9 ?_,HB1.out.alloc HB1.out.size _⟩
   rw [HD.out]
   first | rfl | (rw [Bool.eq_iff_iff];simp <;> omega)
 ·obtain ⟨i',rfl⟩ : ∃ i',i = i' + 1 := ⟨i - 1,by omega⟩
  obtain ⟨gi,ei,-,ci⟩ := HE.out i' (by show i' < nbk I n;omega)
  obtain rfl : gk = gi := by injection ei with ei;injection ei
  have hbi : ((lgs I n n).getD i' 0 : Nat) = bk I n (((i' + 1 : Nat) : Int) - 1) := by
   rw [show ((i' + 1 : Nat) : Int) - 1 = (i' : Int) by omega];exact (bk_bkn I n i' (by omega)).symm
  have hf := HF.out _ hb0 _ _ hbi hbk
  have e1 : ((i' + 1 : Nat) : Int) - 1 = (i' : Int) := by omega
  have hi1 : i' < nbk I n := by omega
  have hi2 : (i' : Int) < (nbk I n : Int) := by omega
  have hi3 : decide ((0 : Int) ≤ (i' : Int)) = true := decide_eq_true (by omega)
  rw [e1]
  generalize nbk I n = m at *
  generalize (lgs I n n).getD k 0 = z at *
  generalize (lgs I n n).getD i' 0 = z' at *
  clear HF HE hbk hbi h he hb0 e1 hi0 ei
  go_enter Tryz.func73,Tryz.ntmps73
  go_wp2_with fail
  refine hf.mono ?_
  rintro e w1 ⟨rfl,hb1⟩
  have hc0 : w1.cell? ⟨w.heap.size,0,none⟩ = some (.int .i64 s.t) := kept_first hb1 0
  have hz1 := World.block_lt_of_cell? w1 _ hc0
  have hz2 : w.heap.size ≠ w1.heap.size := by simp only at hz1;omega
  have HB1 := boxed (below_step HB0.out (Nat.le_refl _) hb1)
  clear hb1 hf
  cases em <;> cases f4
  all_goals
   go_wp2_with fail
   go_ret
   refine ⟨ret_b9 ?_,HB1.out.alloc HB1.out.size _⟩
   rw [HD.out]
   first | rfl | (rw [Bool.eq_iff_iff];simp <;> omega)
end
end Go.Proofs.YtcjcdpfjnomehabGreat
namespace Go.Proofs.YtcjcdpfjnomehabGreat
set_option maxRecDepth 100000
set_option maxHeartbeats 40000000
set_option linter.unusedSimpArgs false
set_option linter.unusedVariables false
def PrI (P : Pr) (I : Nat → Itm) (n : Nat) (X : Nat → Int) (i : Nat) (l : List Nat) (st : Nat) (a t : Int) : Prop := l.length = i ∧ (∀ k,k < i → X k = (bkn I n (l.getD k 0) : Nat)) ∧ pf P 0 (-1) 0 l = some (st,a,t)
section
variable {P : Pr} {I : Nat → Itm} {n : Nat} {X : Nat → Int} {i N : Nat} {l : List Nat} {st : Nat} {a t : Int}
end
end Go.Proofs.YtcjcdpfjnomehabGreat
namespace Go.Proofs.YtcjcdpfjnomehabGreat
set_option maxRecDepth 100000
set_option maxHeartbeats 40000000
open Go.RowKit
set_option linter.unusedSimpArgs false
set_option linter.unusedVariables false
section
variable {S : Nat → Prop} {w : World} {ao xo : Option Addr} {n c xc N : Nat} {I : Nat → Itm} {width : Int} {s : Stg} {X : Nat → Int}
theorem px_m (I : Nat → Itm) (n : Nat) (width : Int) (s : Stg) (em : Bool) : (PX I n width s em).m = nbk I n := rfl
theorem itb_at (I : Nat → Itm) (n j : Nat) (h : j < nbk I n) : itb I n j = I (bkn I n j) ∧ bkn I n j < n := by
 obtain ⟨h1,h2,-⟩ := bkn_at I n j h
 refine ⟨?_,h2⟩
 unfold itb itm
 rw [h1,if_pos (by omega),Int.toNat_natCast]
theorem itb_neg (I : Nat → Itm) (n : Nat) : (itb I n (-1)).flag = false := by
 unfold itb itm
 rw [bk_neg,if_neg (by omega)]
 rfl
def PrW (I : Nat → Itm) (n : Nat) (width : Int) (s : Stg) (em : Bool) (X : Nat → Int) (N : Nat) (w0 : World) (tv cv fv wv iv : Value) (wr : World) : Prop :=
 ∃ (i : Nat) (l : List Nat) (st : Nat) (a t : Int),i ≤ N ∧ st ≤ nbk I n ∧ (-1 ≤ a ∧ a ≤ 3) ∧ Box (PrI (PX I n width s em) I n X i l st a t) ∧ tv = .int .i64 t ∧ cv = .int .i64 a ∧ fv = .bool (itb I n ((st : Int) - 1)).flag ∧ wv = .int .i64 ((st : Int) - 1) ∧ iv = .int .i64 (i : Int) ∧ Box (Below w0.heap.size w0 wr)
end
end Go.Proofs.YtcjcdpfjnomehabGreat
namespace Go.Proofs.YtcjcdpfjnomehabGreat
set_option maxRecDepth 100000
set_option maxHeartbeats 40000000
set_option linter.unusedSimpArgs false
set_option linter.unusedVariables false
end Go.Proofs.YtcjcdpfjnomehabGreat
namespace Go.Proofs.YtcjcdpfjnomehabGreat
set_option maxRecDepth 100000
set_option maxHeartbeats 40000000
open Go.RowKit
set_option linter.unusedSimpArgs false
set_option linter.unusedVariables false
def TbAt (w : World) (tb m : Nat) (R : Nat → Nat → Int) : Prop := ∀ e c,e < m → c < 4 → w.cell? ⟨tb,e * 4 + c,none⟩ = some (.int .i64 (R e c))
theorem TbAt.below {w w' : World} {tb m : Nat} {R : Nat → Nat → Int} (h : TbAt w tb m R) (hb : Below w.heap.size w w') : TbAt w' tb m R := fun e c h1 h2 => hold hb (h e c h1 h2)
def rsv (R : Nat → Nat → Int) (m j c : Nat) : Int := if j + 1 = m then 0 else R j c
theorem rest9_any (w : World) (tb m tc : Nat) (R : Nat → Nat → Int) (eo : Option Addr) (ec : Nat) (h : TbAt w tb m R) (hm : m ≤ 262144) (j c : Nat) (hj : j < m) (hc : c < 4) :
  Calls Tryz.prog 34 #[.slice (some ⟨tb,0,none⟩) m tc,.slice eo m ec,.int .i64 (j : Int),.int .i64 (c : Int)] w fun e w' => e = .returned (.int .i64 (rsv R m j c)) ∧ Below w.heap.size w w' := by
 have hcell := h j c hj hc
 have HV := boxed (show rsv R m j c = if j + 1 = m then 0 else R j c from rfl)
 generalize rsv R m j c = V at *
 have hj2 : (j : Int) < (m : Int) := by omega
 have hc2 : (c : Int) < 4 := by omega
 generalize R j c = x at *
 clear h
 by_cases hl : j + 1 = m
 ·have t1 : ((j : Int) == (m : Int) - 1) = true := by rw [beq_iff_eq];omega
  rw [if_pos hl] at HV
  clear hl hcell
  go_enter Tryz.func34,Tryz.ntmps34
  go_wp2_with fail
  go_ret
  exact ⟨ret_int HV.out.symm,by go_grown⟩
 ·have t1 : ((j : Int) == (m : Int) - 1) = false := by rw [beq_eq_false_iff_ne];omega
  rw [if_neg hl] at HV
  clear hl
  go_enter Tryz.func34,Tryz.ntmps34
  go_wp2_with fail
  go_ret
  exact ⟨ret_int HV.out.symm,by go_grown⟩
section
variable {S S' : Nat → Prop} {w : World} {ao eo : Option Addr} {n c ec : Nat} {I : Nat → Itm} {width : Int} {s : Stg}
theorem ret_ii9 {a b x y : Int} (h1 : a = x) (h2 : b = y) : Ending.returned (.tuple #[.int .i64 a,.int .i64 b]) = Ending.returned (.tuple #[.int .i64 x,.int .i64 y]) := by rw [h1,h2]
def ahd (i : Nat) (cls : Int) : Int := if i = 0 then -1 else cls
theorem line9_any (h : ItsAt S w ao n I) (hn : n ≤ 262144) (hok : ∀ i,i < n → okI I i = true) (he : NAt S' w eo (lgs I n n)) (hw : 1 ≤ width ∧ width ≤ 1073741824) (i j : Nat) (hi : i ≤ nbk I n) (hj : j < nbk I n) (cls : Int) (hcl : -1 ≤ cls ∧ cls ≤ 3) (em : Bool) :
  Calls Tryz.prog 33 #[.slice ao n c,.slice eo (nbk I n) ec,.int .i64 ((i : Int) - 1),.int .i64 (j : Int),.int .i64 cls,.int .i64 width,s.val,.bool em] w fun e w' => e = .returned (.tuple #[.int .i64 (if (PX I n width s em).dz i j = true then (PX I n width s em).ct i j (ahd i cls) else -1),.int .i64 (if (PX I n width s em).dz i j = true then (PX I n width s em).kl i j else 0)]) ∧ Below w.heap.size w w' := by
 have hl := lgs_len I n n
 have hm : nbk I n ≤ 262144 := by unfold nbk;omega
 have HH := boxed h
 have HE := boxed he
 obtain ⟨w0,hw0⟩ : ∃ w0,w.alloc (.cells #[.int .i64 s.t,.int .i64 s.l,.int .i64 s.a,.int .i64 s.d,.int .i64 s.z,.int .i64 s.o,.int .i64 s.i] 25) = w0 := ⟨_,rfl⟩
 have hb0 : Below w.heap.size w w0 := by rw [← hw0];exact (Below.refl _ _).alloc (Nat.le_refl _) _
 have HC0 : Box (∀ W,Below w0.heap.size w0 W → (W.cell? ⟨w.heap.size,0,none⟩ = some (.int .i64 s.t) ∧ W.cell? ⟨w.heap.size,1,none⟩ = some (.int .i64 s.l) ∧ W.cell? ⟨w.heap.size,2,none⟩ = some (.int .i64 s.a) ∧ W.cell? ⟨w.heap.size,3,none⟩ = some (.int .i64 s.d) ∧ W.cell? ⟨w.heap.size,4,none⟩ = some (.int .i64 s.z) ∧ W.cell? ⟨w.heap.size,5,none⟩ = some (.int .i64 s.o) ∧ W.cell? ⟨w.heap.size,6,none⟩ = some (.int .i64 s.i)) ∧ Below w.heap.size w W) := boxed (fun W hb => by
  subst hw0
  exact ⟨⟨kept_first hb 0,kept_first hb 1,kept_first hb 2,kept_first hb 3,kept_first hb 4,kept_first hb 5,kept_first hb 6⟩,below_step hb0 (Nat.le_refl _) hb⟩)
 have hdo := does_any (S := S) (S' := S') (c := c) (ec := ec) (s := s) (h.below hb0) hn hok (he.below hb0) hw i j hi hj em
 unfold Stg.val at *
 clear h he
 obtain ⟨⟨s0,s1,s2,s3,s4,s5,s6⟩,-⟩ := HC0.out _ (Below.refl _ _)
 cases hD : (PX I n width s em).dz i j
 ·rw [hD] at hdo
  rw [if_neg (by simp),if_neg (by simp)]
  clear hD
  generalize nbk I n = m at *
  go_enter Tryz.func33,Tryz.ntmps33
  go_wp2_with fail
  refine hdo.mono ?_
  rintro e w1 ⟨rfl,hb1⟩
  have HB1 := boxed (HC0.out _ hb1).2
  clear hb1 hdo
  go_wp2_with fail
  go_ret2
  exact ⟨rfl,HB1.out⟩
 ·rw [hD] at hdo
  rw [if_pos rfl,if_pos rfl]
  clear hD
  obtain ⟨gj,ej,-,cj⟩ := HE.out j hj
  rw [show (lgs I n n).getD j 0 = bkn I n j from rfl] at cj
  have HCj := boxed cj
  obtain ⟨hx1,hx2⟩ := itb_at I n j hj
  have hbj : Box (((bkn I n j : Nat) : Int) = bk I n j) := boxed (bk_bkn I n j hj).symm
  have hcf := ftb_cls I n width ((i : Int) - 1) j
  have HFi := boxed (fun W (hb : Below w0.heap.size w0 W) (a b : Int) (h1 : a = bk I n ((i : Int) - 1)) (h2 : b = bk I n j) => reffit9_any (c := c) (HH.out.below (HC0.out _ hb).2) hn hok hw ((i : Int) - 1) j a b h1 h2)
  have hco := fun W => refcost_any s (ftb I n width ((i : Int) - 1) j) (itb I n j) (ahd i cls) (itb I n ((i : Int) - 1)).flag (decide (j + 1 = nbk I n)) W (by unfold ahd;split <;> omega) (by omega)
  have HCt : Box ((PX I n width s em).ct i j (ahd i cls) = cst s (ftb I n width ((i : Int) - 1) j) (itb I n j) (ahd i cls) (itb I n ((i : Int) - 1)).flag (decide (j + 1 = nbk I n))) := boxed rfl
  have HKl : Box ((PX I n width s em).kl i j = (ftb I n width ((i : Int) - 1) j).cls) := boxed rfl
  have t4 : ((j : Int) == (nbk I n : Int) - 1) = decide (j + 1 = nbk I n) := by rw [Bool.eq_iff_iff];simp;omega
  generalize (PX I n width s em).ct i j (ahd i cls) = ct at *
  generalize (PX I n width s em).kl i j = kl at *
  rw [← HCt.out] at hco
  have hj2 : (j : Int) < (nbk I n : Int) := by omega
  have hx3 : ((bkn I n j : Nat) : Int) < (n : Int) := by omega
  subst ej
  unfold Stg.val at hco
  clear cj HCt
  by_cases hi0 : i = 0
  ·subst hi0
   have hfi := HFi.out
   rw [show ahd 0 cls = -1 from rfl,show ((0 : Nat) : Int) - 1 = -1 from rfl,itb_neg] at hco
   rw [show ((0 : Nat) : Int) - 1 = -1 from rfl] at hfi hcf HKl hdo ⊢
   generalize decide (j + 1 = nbk I n) = lb at *
   generalize nbk I n = m at *
   generalize ftb I n width (-1) j = F at *
   obtain ⟨f0,f1,f2,f3,f4⟩ := F
   unfold Ft.val at hfi hco
   simp only at hfi hco hcf HKl
   go_enter Tryz.func33,Tryz.ntmps33
   go_wp2_with fail
   refine hdo.mono ?_
   rintro e w1 ⟨rfl,hb1⟩
   have HB1 := boxed hb1
   have cj1 := hold hb1 (hold hb0 HCj.out)
   have hf := hfi _ hb1 (-1) _ (bk_neg I n).symm hbj.out
   clear hb1 hdo hfi s0 s1 s2 s3 s4 s5 s6
   generalize hz : bkn I n j = z at *
   replace hz := boxed hz
   go_wp2_with fail
   refine hf.mono ?_
   rintro e w5 ⟨rfl,hb5⟩
   have HB5 := boxed (below_step HB1.out (Nat.le_refl _) hb5)
   obtain ⟨⟨s0,s1,s2,s3,s4,s5,s6⟩,hbw5⟩ := HC0.out _ HB5.out
   obtain ⟨ib,ifo,ei,-,x0,x1,x2,x3,x4,x5,x6,x7,x8⟩ := (HH.out.below hbw5) z hx2
   subst ei
   rw [← hx1] at x0 x1 x2 x3 x4 x5 x6 x7 x8
   have cj5 := hold hb5 cj1
   have hwr : IntKind.i64.wrap ((m : Int) - 1) = (m : Int) - 1 := by rw [IntKind.wrap_i64];omega
   unfold Itm.val at hco
   clear hb5 hf cj1 HFi HE HCj hx1
   generalize itb I n j = y at *
   have HS : Box (∀ W,Below (w5.alloc (.cells #[.int .i64 f0,.int .i64 f1,.int .i64 f2,.int .i64 f3,.bool f4] 91)).heap.size (w5.alloc (.cells #[.int .i64 f0,.int .i64 f1,.int .i64 f2,.int .i64 f3,.bool f4] 91)) W → W.cell? ⟨w.heap.size,0,none⟩ = some (.int .i64 s.t) ∧ W.cell? ⟨w.heap.size,1,none⟩ = some (.int .i64 s.l) ∧ W.cell? ⟨w.heap.size,2,none⟩ = some (.int .i64 s.a) ∧ W.cell? ⟨w.heap.size,3,none⟩ = some (.int .i64 s.d) ∧ W.cell? ⟨w.heap.size,4,none⟩ = some (.int .i64 s.z) ∧ W.cell? ⟨w.heap.size,5,none⟩ = some (.int .i64 s.o) ∧ W.cell? ⟨w.heap.size,6,none⟩ = some (.int .i64 s.i) ∧ W.cell? ⟨w5.heap.size,0,none⟩ = some (.int .i64 f0) ∧ W.cell? ⟨w5.heap.size,1,none⟩ = some (.int .i64 f1) ∧ W.cell? ⟨w5.heap.size,2,none⟩ = some (.int .i64 f2) ∧ W.cell? ⟨w5.heap.size,3,none⟩ = some (.int .i64 f3) ∧ W.cell? ⟨w5.heap.size,4,none⟩ = some (.bool f4) ∧ W.cell? ⟨gj,j,none⟩ = some (.int .i64 (z : Int)) ∧ W.cell? ⟨ib,ifo + z * 9,none⟩ = some (.int .i64 y.k) ∧ W.cell? ⟨ib,ifo + z * 9 + 1,none⟩ = some (.int .i64 y.w) ∧ W.cell? ⟨ib,ifo + z * 9 + 2,none⟩ = some (.int .i64 y.st) ∧ W.cell? ⟨ib,ifo + z * 9 + 3,none⟩ = some (.int .i64 y.sh) ∧ W.cell? ⟨ib,ifo + z * 9 + 4,none⟩ = some (.bool y.fill) ∧ W.cell? ⟨ib,ifo + z * 9 + 5,none⟩ = some (.int .i64 y.c) ∧ W.cell? ⟨ib,ifo + z * 9 + 6,none⟩ = some (.bool y.flag) ∧ W.cell? ⟨ib,ifo + z * 9 + 7,none⟩ = some (.int .i64 y.fr) ∧ W.cell? ⟨ib,ifo + z * 9 + 8,none⟩ = some (.int .i64 y.to)) := boxed (fun W hb => by
    have hb' : Below w5.heap.size w5 W := ((Below.refl _ w5).alloc (Nat.le_refl _) _).trans (hb.mono (by simp))
    have hE : W.heap[w5.heap.size]? = some (.cells #[.int .i64 f0,.int .i64 f1,.int .i64 f2,.int .i64 f3,.bool f4] 91 (0,0)) := (hb.block w5.heap.size (by simp)).trans (heap_alloc_new w5 _)
    have q0 := row_cell hE 0 _ rfl
    have q1 := row_cell hE 1 _ rfl
    have q2 := row_cell hE 2 _ rfl
    have q3 := row_cell hE 3 _ rfl
    have q4 := row_cell hE 4 _ rfl
    exact ⟨hold hb' s0,hold hb' s1,hold hb' s2,hold hb' s3,hold hb' s4,hold hb' s5,hold hb' s6,q0,q1,q2,q3,q4,hold hb' cj5,hold hb' x0,hold hb' x1,hold hb' x2,hold hb' x3,hold hb' x4,hold hb' x5,hold hb' x6,hold hb' x7,hold hb' x8⟩)
   have HD0 : Box (Below (w5.alloc (.cells #[.int .i64 f0,.int .i64 f1,.int .i64 f2,.int .i64 f3,.bool f4] 91)).heap.size (w5.alloc (.cells #[.int .i64 f0,.int .i64 f1,.int .i64 f2,.int .i64 f3,.bool f4] 91)) (w5.alloc (.cells #[.int .i64 f0,.int .i64 f1,.int .i64 f2,.int .i64 f3,.bool f4] 91)).drew) := boxed (Below.refl _ _).drew
   have HFin : Box (∀ W,Below (w5.alloc (.cells #[.int .i64 f0,.int .i64 f1,.int .i64 f2,.int .i64 f3,.bool f4] 91)).heap.size (w5.alloc (.cells #[.int .i64 f0,.int .i64 f1,.int .i64 f2,.int .i64 f3,.bool f4] 91)) W → Below w.heap.size w W) := boxed (fun W hb => by
    have hb' : Below w5.heap.size w5 W := ((Below.refl _ w5).alloc (Nat.le_refl _) _).trans (hb.mono (by simp))
    exact below_step hbw5 (Nat.le_refl _) hb')
   clear s0 s1 s2 s3 s4 s5 s6 x0 x1 x2 x3 x4 x5 x6 x7 x8 cj5 hbw5
   go_wp2_with fail
   go_region_held3 (fun W => W.cell? ⟨w.heap.size,0,none⟩ = some (.int .i64 s.t) ∧ W.cell? ⟨w.heap.size,1,none⟩ = some (.int .i64 s.l) ∧ W.cell? ⟨w.heap.size,2,none⟩ = some (.int .i64 s.a) ∧ W.cell? ⟨w.heap.size,3,none⟩ = some (.int .i64 s.d) ∧ W.cell? ⟨w.heap.size,4,none⟩ = some (.int .i64 s.z) ∧ W.cell? ⟨w.heap.size,5,none⟩ = some (.int .i64 s.o) ∧ W.cell? ⟨w.heap.size,6,none⟩ = some (.int .i64 s.i) ∧ W.cell? ⟨w5.heap.size,0,none⟩ = some (.int .i64 f0) ∧ W.cell? ⟨w5.heap.size,1,none⟩ = some (.int .i64 f1) ∧ W.cell? ⟨w5.heap.size,2,none⟩ = some (.int .i64 f2) ∧ W.cell? ⟨w5.heap.size,3,none⟩ = some (.int .i64 f3) ∧ W.cell? ⟨w5.heap.size,4,none⟩ = some (.bool f4) ∧ W.cell? ⟨gj,j,none⟩ = some (.int .i64 (z : Int)) ∧ W.cell? ⟨ib,ifo + z * 9,none⟩ = some (.int .i64 y.k) ∧ W.cell? ⟨ib,ifo + z * 9 + 1,none⟩ = some (.int .i64 y.w) ∧ W.cell? ⟨ib,ifo + z * 9 + 2,none⟩ = some (.int .i64 y.st) ∧ W.cell? ⟨ib,ifo + z * 9 + 3,none⟩ = some (.int .i64 y.sh) ∧ W.cell? ⟨ib,ifo + z * 9 + 4,none⟩ = some (.bool y.fill) ∧ W.cell? ⟨ib,ifo + z * 9 + 5,none⟩ = some (.int .i64 y.c) ∧ W.cell? ⟨ib,ifo + z * 9 + 6,none⟩ = some (.bool y.flag) ∧ W.cell? ⟨ib,ifo + z * 9 + 7,none⟩ = some (.int .i64 y.fr) ∧ W.cell? ⟨ib,ifo + z * 9 + 8,none⟩ = some (.int .i64 y.to))
    (first | with_reducible exact HS.out _ HD0.out | with_reducible exact HS.out _ HB6.out)
    (first | (go_at_call 74;with_reducible refine (hco _).mono ?_;rintro e w6 ⟨rfl,hb6⟩;have HB6 := boxed (HD0.out.trans (hb6.mono HD0.out.size));clear hb6))
   go_wp2_with fail
   go_ret2
   exact ⟨ret_ii9 rfl HKl.out.symm,HFin.out _ HB6.out⟩
  ·obtain ⟨i',rfl⟩ : ∃ i',i = i' + 1 := ⟨i - 1,by omega⟩
   obtain ⟨gi,ei,-,ci⟩ := HE.out i' (by show i' < nbk I n;omega)
   obtain rfl : gj = gi := by injection ei with ei;injection ei
   rw [show (lgs I n n).getD i' 0 = bkn I n i' from rfl] at ci
   have HCi := boxed ci
   have hbi : Box (((bkn I n i' : Nat) : Int) = bk I n (i' : Int)) := boxed (bk_bkn I n i' (by omega)).symm
   obtain ⟨hv1,hv2⟩ := itb_at I n i' (by omega)
   have e1 : ((i' + 1 : Nat) : Int) - 1 = (i' : Int) := by omega
   have hfi := HFi.out
   rw [show ahd (i' + 1) cls = cls from rfl,e1] at hco
   rw [e1] at hfi hcf HKl hdo ⊢
   have u1 : decide ((0 : Int) ≤ (i' : Int)) = true := decide_eq_true (by omega)
   have u2 : i' < nbk I n := by omega
   have u3 : (i' : Int) < (nbk I n : Int) := by omega
   have u4 : ((bkn I n i' : Nat) : Int) < (n : Int) := by omega
   generalize decide (j + 1 = nbk I n) = lb at *
   generalize nbk I n = m at *
   generalize ftb I n width (i' : Int) j = F at *
   obtain ⟨f0,f1,f2,f3,f4⟩ := F
   unfold Ft.val at hfi hco
   simp only at hfi hco hcf HKl
   have hlo : Box (∀ W,Below w0.heap.size w0 W → ∃ ib ifo,ao = some ⟨ib,ifo,none⟩ ∧ W.cell? ⟨ib,ifo + bkn I n i' * 9 + 6,none⟩ = some (.bool (itb I n i').flag)) := boxed (fun W hb => by
    obtain ⟨ib,ifo,ei,-,x0,x1,x2,x3,x4,x5,x6,x7,x8⟩ := (HH.out.below (HC0.out _ hb).2) _ hv2
    rw [← hv1] at x6
    exact ⟨ib,ifo,ei,x6⟩)
   clear e1 ei ci hv1
   generalize (itb I n (i' : Int)).flag = fl at *
   generalize hzi : bkn I n i' = zi at *
   replace hzi := boxed hzi
   go_enter Tryz.func33,Tryz.ntmps33
   go_wp2_with fail
   refine hdo.mono ?_
   rintro e w1 ⟨rfl,hb1⟩
   have HB1 := boxed hb1
   have cj1 := hold hb1 (hold hb0 HCj.out)
   have ci1 := hold hb1 (hold hb0 HCi.out)
   obtain ⟨ib',ifo',ei',cx6⟩ := hlo.out _ hb1
   subst ei'
   have hf := hfi _ hb1 _ _ hbi.out hbj.out
   clear hb1 hdo hfi s0 s1 s2 s3 s4 s5 s6
   generalize hz : bkn I n j = z at *
   replace hz := boxed hz
   go_wp2_with fail
   refine hf.mono ?_
   rintro e w5 ⟨rfl,hb5⟩
   clear ci1 cx6 hlo HCi
   have HB5 := boxed (below_step HB1.out (Nat.le_refl _) hb5)
   obtain ⟨⟨s0,s1,s2,s3,s4,s5,s6⟩,hbw5⟩ := HC0.out _ HB5.out
   obtain ⟨ib,ifo,ei,-,x0,x1,x2,x3,x4,x5,x6,x7,x8⟩ := (HH.out.below hbw5) z hx2
   obtain ⟨rfl,rfl⟩ : ib' = ib ∧ ifo' = ifo := by injection ei with ei;injection ei with h1 h2;exact ⟨h1,h2⟩
   clear ei
   rw [← hx1] at x0 x1 x2 x3 x4 x5 x6 x7 x8
   have cj5 := hold hb5 cj1
   have hwr : IntKind.i64.wrap ((m : Int) - 1) = (m : Int) - 1 := by rw [IntKind.wrap_i64];omega
   unfold Itm.val at hco
   clear hb5 hf cj1 HFi HE HCj hx1
   generalize itb I n j = y at *
   have HS : Box (∀ W,Below (w5.alloc (.cells #[.int .i64 f0,.int .i64 f1,.int .i64 f2,.int .i64 f3,.bool f4] 91)).heap.size (w5.alloc (.cells #[.int .i64 f0,.int .i64 f1,.int .i64 f2,.int .i64 f3,.bool f4] 91)) W → W.cell? ⟨w.heap.size,0,none⟩ = some (.int .i64 s.t) ∧ W.cell? ⟨w.heap.size,1,none⟩ = some (.int .i64 s.l) ∧ W.cell? ⟨w.heap.size,2,none⟩ = some (.int .i64 s.a) ∧ W.cell? ⟨w.heap.size,3,none⟩ = some (.int .i64 s.d) ∧ W.cell? ⟨w.heap.size,4,none⟩ = some (.int .i64 s.z) ∧ W.cell? ⟨w.heap.size,5,none⟩ = some (.int .i64 s.o) ∧ W.cell? ⟨w.heap.size,6,none⟩ = some (.int .i64 s.i) ∧ W.cell? ⟨w5.heap.size,0,none⟩ = some (.int .i64 f0) ∧ W.cell? ⟨w5.heap.size,1,none⟩ = some (.int .i64 f1) ∧ W.cell? ⟨w5.heap.size,2,none⟩ = some (.int .i64 f2) ∧ W.cell? ⟨w5.heap.size,3,none⟩ = some (.int .i64 f3) ∧ W.cell? ⟨w5.heap.size,4,none⟩ = some (.bool f4) ∧ W.cell? ⟨gj,j,none⟩ = some (.int .i64 (z : Int)) ∧ W.cell? ⟨ib',ifo' + z * 9,none⟩ = some (.int .i64 y.k) ∧ W.cell? ⟨ib',ifo' + z * 9 + 1,none⟩ = some (.int .i64 y.w) ∧ W.cell? ⟨ib',ifo' + z * 9 + 2,none⟩ = some (.int .i64 y.st) ∧ W.cell? ⟨ib',ifo' + z * 9 + 3,none⟩ = some (.int .i64 y.sh) ∧ W.cell? ⟨ib',ifo' + z * 9 + 4,none⟩ = some (.bool y.fill) ∧ W.cell? ⟨ib',ifo' + z * 9 + 5,none⟩ = some (.int .i64 y.c) ∧ W.cell? ⟨ib',ifo' + z * 9 + 6,none⟩ = some (.bool y.flag) ∧ W.cell? ⟨ib',ifo' + z * 9 + 7,none⟩ = some (.int .i64 y.fr) ∧ W.cell? ⟨ib',ifo' + z * 9 + 8,none⟩ = some (.int .i64 y.to)) := boxed (fun W hb => by
    have hb' : Below w5.heap.size w5 W := ((Below.refl _ w5).alloc (Nat.le_refl _) _).trans (hb.mono (by simp))
    have hE : W.heap[w5.heap.size]? = some (.cells #[.int .i64 f0,.int .i64 f1,.int .i64 f2,.int .i64 f3,.bool f4] 91 (0,0)) := (hb.block w5.heap.size (by simp)).trans (heap_alloc_new w5 _)
    have q0 := row_cell hE 0 _ rfl
    have q1 := row_cell hE 1 _ rfl
    have q2 := row_cell hE 2 _ rfl
    have q3 := row_cell hE 3 _ rfl
    have q4 := row_cell hE 4 _ rfl
    exact ⟨hold hb' s0,hold hb' s1,hold hb' s2,hold hb' s3,hold hb' s4,hold hb' s5,hold hb' s6,q0,q1,q2,q3,q4,hold hb' cj5,hold hb' x0,hold hb' x1,hold hb' x2,hold hb' x3,hold hb' x4,hold hb' x5,hold hb' x6,hold hb' x7,hold hb' x8⟩)
   have HD0 : Box (Below (w5.alloc (.cells #[.int .i64 f0,.int .i64 f1,.int .i64 f2,.int .i64 f3,.bool f4] 91)).heap.size (w5.alloc (.cells #[.int .i64 f0,.int .i64 f1,.int .i64 f2,.int .i64 f3,.bool f4] 91)) (w5.alloc (.cells #[.int .i64 f0,.int .i64 f1,.int .i64 f2,.int .i64 f3,.bool f4] 91)).drew) := boxed (Below.refl _ _).drew
   have HFin : Box (∀ W,Below (w5.alloc (.cells #[.int .i64 f0,.int .i64 f1,.int .i64 f2,.int .i64 f3,.bool f4] 91)).heap.size (w5.alloc (.cells #[.int .i64 f0,.int .i64 f1,.int .i64 f2,.int .i64 f3,.bool f4] 91)) W → Below w.heap.size w W) := boxed (fun W hb => by
    have hb' : Below w5.heap.size w5 W := ((Below.refl _ w5).alloc (Nat.le_refl _) _).trans (hb.mono (by simp))
    exact below_step hbw5 (Nat.le_refl _) hb')
   clear s0 s1 s2 s3 s4 s5 s6 x0 x1 x2 x3 x4 x5 x6 x7 x8 cj5 hbw5
   go_wp2_with fail
   go_region_held3 (fun W => W.cell? ⟨w.heap.size,0,none⟩ = some (.int .i64 s.t) ∧ W.cell? ⟨w.heap.size,1,none⟩ = some (.int .i64 s.l) ∧ W.cell? ⟨w.heap.size,2,none⟩ = some (.int .i64 s.a) ∧ W.cell? ⟨w.heap.size,3,none⟩ = some (.int .i64 s.d) ∧ W.cell? ⟨w.heap.size,4,none⟩ = some (.int .i64 s.z) ∧ W.cell? ⟨w.heap.size,5,none⟩ = some (.int .i64 s.o) ∧ W.cell? ⟨w.heap.size,6,none⟩ = some (.int .i64 s.i) ∧ W.cell? ⟨w5.heap.size,0,none⟩ = some (.int .i64 f0) ∧ W.cell? ⟨w5.heap.size,1,none⟩ = some (.int .i64 f1) ∧ W.cell? ⟨w5.heap.size,2,none⟩ = some (.int .i64 f2) ∧ W.cell? ⟨w5.heap.size,3,none⟩ = some (.int .i64 f3) ∧ W.cell? ⟨w5.heap.size,4,none⟩ = some (.bool f4) ∧ W.cell? ⟨gj,j,none⟩ = some (.int .i64 (z : Int)) ∧ W.cell? ⟨ib',ifo' + z * 9,none⟩ = some (.int .i64 y.k) ∧ W.cell? ⟨ib',ifo' + z * 9 + 1,none⟩ = some (.int .i64 y.w) ∧ W.cell? ⟨ib',ifo' + z * 9 + 2,none⟩ = some (.int .i64 y.st) ∧ W.cell? ⟨ib',ifo' + z * 9 + 3,none⟩ = some (.int .i64 y.sh) ∧ W.cell? ⟨ib',ifo' + z * 9 + 4,none⟩ = some (.bool y.fill) ∧ W.cell? ⟨ib',ifo' + z * 9 + 5,none⟩ = some (.int .i64 y.c) ∧ W.cell? ⟨ib',ifo' + z * 9 + 6,none⟩ = some (.bool y.flag) ∧ W.cell? ⟨ib',ifo' + z * 9 + 7,none⟩ = some (.int .i64 y.fr) ∧ W.cell? ⟨ib',ifo' + z * 9 + 8,none⟩ = some (.int .i64 y.to))
    (first | with_reducible exact HS.out _ HD0.out | with_reducible exact HS.out _ HB6.out)
    (first | (go_at_call 74;with_reducible refine (hco _).mono ?_;rintro e w6 ⟨rfl,hb6⟩;have HB6 := boxed (HD0.out.trans (hb6.mono HD0.out.size));clear hb6))
   go_wp2_with fail
   go_ret2
   exact ⟨ret_ii9 rfl HKl.out.symm,HFin.out _ HB6.out⟩
end
end Go.Proofs.YtcjcdpfjnomehabGreat
namespace Go.Proofs.YtcjcdpfjnomehabGreat
set_option maxRecDepth 100000
set_option maxHeartbeats 40000000
open Go.RowKit
set_option linter.unusedSimpArgs false
set_option linter.unusedVariables false
section
variable {S S' : Nat → Prop} {w : World} {ao eo : Option Addr} {n c ec tb tc : Nat} {I : Nat → Itm} {width : Int} {s : Stg} {R : Nat → Nat → Int}
def TbOk (P : Pr) (R : Nat → Nat → Int) (i : Nat) : Prop := ∀ (e c : Nat),i ≤ e → e + 1 < P.m → c < 4 → Lst P (e + 1) (c : Int) (R e c)
theorem rsv_lst {P : Pr} {R : Nat → Nat → Int} {i j : Nat} (h : TbOk P R i) (hij : i ≤ j) (hj : j < P.m) (c : Nat) (hc : c < 4) : Lst P (j + 1) (c : Int) (rsv R P.m j c) := by
 unfold rsv
 by_cases q : j + 1 = P.m
 ·rw [if_pos q,q];exact lst_end P _
 ·rw [if_neg q];exact h j c hij (by omega) hc
theorem least9_any (h : ItsAt S w ao n I) (hn : n ≤ 262144) (hok : ∀ i,i < n → okI I i = true) (he : NAt S' w eo (lgs I n n)) (hw : 1 ≤ width ∧ width ≤ 1073741824) (hs : okS s = true) (em : Bool) (ht : TbAt w tb (nbk I n) R) (i : Nat) (hi : i < nbk I n) (hR : TbOk (PX I n width s em) R i) (cls : Int) (hcl : 0 ≤ cls ∧ cls ≤ 3) :
  Calls Tryz.prog 32 #[.slice (some ⟨tb,0,none⟩) (nbk I n) tc,.slice ao n c,.slice eo (nbk I n) ec,.int .i64 ((i : Int) - 1),.int .i64 cls,.int .i64 width,s.val,.bool em] w fun e w' => ∃ v,e = .returned (.int .i64 v) ∧ Lst (PX I n width s em) i (ahd i cls) v ∧ Below w.heap.size w w' := by
 have hl := lgs_len I n n
 have hm : nbk I n ≤ 262144 := by unfold nbk;omega
 have HH := boxed h
 have HE := boxed he
 have HT := boxed ht
 have HR := boxed hR
 have HNn := boxed (px_nn I n width s em hok hs)
 obtain ⟨w0,hw0⟩ : ∃ w0,w.alloc (.cells #[.int .i64 s.t,.int .i64 s.l,.int .i64 s.a,.int .i64 s.d,.int .i64 s.z,.int .i64 s.o,.int .i64 s.i] 25) = w0 := ⟨_,rfl⟩
 have hb0 : Below w.heap.size w w0 := by rw [← hw0];exact (Below.refl _ _).alloc (Nat.le_refl _) _
 have HC0 : Box (∀ W,Below w0.heap.size w0 W → (W.cell? ⟨w.heap.size,0,none⟩ = some (.int .i64 s.t) ∧ W.cell? ⟨w.heap.size,1,none⟩ = some (.int .i64 s.l) ∧ W.cell? ⟨w.heap.size,2,none⟩ = some (.int .i64 s.a) ∧ W.cell? ⟨w.heap.size,3,none⟩ = some (.int .i64 s.d) ∧ W.cell? ⟨w.heap.size,4,none⟩ = some (.int .i64 s.z) ∧ W.cell? ⟨w.heap.size,5,none⟩ = some (.int .i64 s.o) ∧ W.cell? ⟨w.heap.size,6,none⟩ = some (.int .i64 s.i)) ∧ Below w.heap.size w W) := boxed (fun W hb => by
  subst hw0
  exact ⟨⟨kept_first hb 0,kept_first hb 1,kept_first hb 2,kept_first hb 3,kept_first hb 4,kept_first hb 5,kept_first hb 6⟩,below_step hb0 (Nat.le_refl _) hb⟩)
 have HLi := boxed (fun W (hb : Below w0.heap.size w0 W) (j : Nat) (hj : j < nbk I n) => line9_any (c := c) (ec := ec) (s := s) (HH.out.below (HC0.out _ hb).2) hn hok (HE.out.below (HC0.out _ hb).2) hw i j (by omega) hj cls (by omega) em)
 have HRe := boxed (fun W (hb : Below w0.heap.size w0 W) (j x : Nat) (hj : j < nbk I n) (hx : x < 4) => rest9_any W tb (nbk I n) tc R eo ec (HT.out.below (HC0.out _ hb).2) hm j x hj hx)
 have HFc := boxed (fun W (hb : Below w0.heap.size w0 W) (j : Nat) (hj : j < nbk I n) => (HH.out.below (HC0.out _ hb).2) (bkn I n j) (itb_at I n j hj).2)
 have HEn := boxed (fun W (hb : Below w0.heap.size w0 W) (j : Nat) (hj : j < nbk I n) => (HE.out.below (HC0.out _ hb).2) j hj)
 unfold Stg.val at *
 clear h he ht hR hb0
 have e0 : ((i : Int) - 1) + 1 = (i : Int) := by omega
 have HZ : Box (LsJ (PX I n width s em) i (ahd i cls) i (-1)) := boxed (lsj_zero _ _ _)
 generalize hM : nbk I n = m at *
 replace hM := boxed hM
 go_enter Tryz.func32,Tryz.ntmps32
 go_wp2_with fail
 go_loopw [17,18] (fun bv jv wr => ∃ (j : Nat) (v : Int),i ≤ j ∧ j ≤ m ∧ bv = .int .i64 v ∧ jv = .int .i64 (j : Int) ∧ Box (LsJ (PX I n width s em) i (ahd i cls) j v) ∧ Box (∀ q,q < j → i ≤ q → forc (itb I n q) = false) ∧ Box (Below w0.heap.size w0 wr)) (fun _ jv _ => m - (intOf jv).toNat)
 case atStart => exact ⟨i,-1,Nat.le_refl _,by omega,rfl,by go_num,HZ,boxed (fun q h1 h2 => by omega),boxed (Below.refl _ _)⟩
 case round =>
  obtain ⟨j,v,hij,hjm,rfl,rfl,HL,HFo,HBr⟩ := hrel
  clear HZ
  by_cases hlt : j < m
  ·have t1 : decide ((j : Int) < (m : Int)) = true := decide_eq_true (by omega)
   have t1' : decide (j < m) = true := decide_eq_true hlt
   obtain ⟨⟨s0,s1,s2,s3,s4,s5,s6⟩,-⟩ := HC0.out _ HBr.out
   have hli := HLi.out _ HBr.out j hlt
   cases hD : (PX I n width s em).dz i j
   ·rw [hD,if_neg (by simp),if_neg (by simp)] at hli
    have HL2 : Box (LsJ (PX I n width s em) i (ahd i cls) (j + 1) v) := boxed (lsj_not HL.out (fun t x hx => by
     obtain ⟨hs',-⟩ := cw_cons _ _ _ _ _ _ hx
     have := ((mayL_iff _ _ _).1 hs').2.2.1
     rw [hD] at this
     cases this))
    clear hD
    go_wp2_with fail
    refine hli.mono ?_
    rintro e w2 ⟨rfl,hb2⟩
    have HB2 := boxed (below_step HBr.out (Nat.le_refl _) hb2)
    clear hb2 hli s0 s1 s2 s3 s4 s5 s6
    obtain ⟨ge,ee,-,ce⟩ := HEn.out _ HB2.out j hlt
    rw [show (lgs I n n).getD j 0 = bkn I n j from rfl] at ce
    obtain ⟨hx1,hx2⟩ := itb_at I n j (by rw [hM.out];exact hlt)
    obtain ⟨ib,ifo,ei,-,x0,x1,x2,x3,x4,x5,x6,x7,x8⟩ := HFc.out _ HB2.out j hlt
    subst ee
    subst ei
    have hfc := fun W => refforced_any (itb I n j) W
    rw [← hx1] at x0 x1 x2 x3 x4 x5 x6 x7 x8
    have hjm2 : (j : Int) < (m : Int) := by omega
    have hx3 : ((bkn I n j : Nat) : Int) < (n : Int) := by omega
    unfold Itm.val at hfc
    clear hx1
    cases hfo : forc (itb I n j)
    ·have HFo2 : Box (∀ q,q < j + 1 → i ≤ q → forc (itb I n q) = false) := boxed (fun q h1 h2 => by
      by_cases e : q = j
      ·rw [e];exact hfo
      ·exact HFo.out q (by omega) h2)
     rw [hfo] at hfc
     clear hfo HFo HLi HRe HFc HEn
     generalize itb I n j = y at *
     generalize bkn I n j = z at *
     go_wp2_with (go_at_call 72;refine (hfc _).mono ?_;rintro e w9 ⟨rfl,hb9⟩;have HB9 := boxed (below_step HB2.out (Nat.le_refl _) hb9);clear hb9)
     go_roundw
     case rel => exact ⟨j + 1,v,by omega,by omega,rfl,by go_num,HL2,HFo2,HB9⟩
     case measure => simp [intOf];omega
    ·have HLa := boxed (lsj_all (by rw [px_m,hM.out];exact hi) hij (.inl hfo) HL2.out)
     rw [hfo] at hfc
     clear hfo HFo HLi HRe HFc HEn
     generalize itb I n j = y at *
     generalize bkn I n j = z at *
     go_wp2_with (go_at_call 72;refine (hfc _).mono ?_;rintro e w9 ⟨rfl,hb9⟩;have HB9 := boxed (below_step HB2.out (Nat.le_refl _) hb9);clear hb9)
     go_ret
     exact ⟨v,rfl,HLa.out,(HC0.out _ HB9.out).2⟩
   ·rw [hD,if_pos rfl,if_pos rfl] at hli
    have HMy : Box (mayL (PX I n width s em) i j = true) := boxed ((mayL_iff _ _ _).2 ⟨hij,by show j < nbk I n;rw [hM.out];exact hlt,hD,HFo.out⟩)
    clear hD
    have hct := (HNn.out i j (ahd i cls) HMy.out)
    have hkl : 0 ≤ (PX I n width s em).kl i j ∧ (PX I n width s em).kl i j ≤ 3 := by have := ftb_cls I n width ((i : Int) - 1) j;exact ⟨this.1,this.2.1⟩
    obtain ⟨kc,hkc⟩ : ∃ kc : Nat,(PX I n width s em).kl i j = (kc : Int) := ⟨((PX I n width s em).kl i j).toNat,by omega⟩
    have hkc4 : kc < 4 := by omega
    have HRl : Box (Lst (PX I n width s em) (j + 1) ((PX I n width s em).kl i j) (rsv R m j kc)) := boxed (by
     have := rsv_lst HR.out hij (by rw [px_m,hM.out];exact hlt) kc hkc4
     rw [px_m,hM.out] at this
     rw [hkc];exact this)
    have hrb := lst_bnd HNn.out HRl.out
    unfold Awf at hct hrb
    rw [hkc] at hli
    have HKc := boxed hkc
    clear hkc hkl
    have HCt : Box (∃ ct,ct = (PX I n width s em).ct i j (ahd i cls)) := boxed ⟨_,rfl⟩
    go_wp2_with fail
    refine hli.mono ?_
    rintro e w2 ⟨rfl,hb2⟩
    have HB2 := boxed (below_step HBr.out (Nat.le_refl _) hb2)
    clear hb2 hli s0 s1 s2 s3 s4 s5 s6
    have hre := HRe.out _ HB2.out j kc hlt hkc4
    have t2 : decide (0 ≤ (PX I n width s em).ct i j (ahd i cls)) = true := decide_eq_true hct.1
    have HNs := boxed (fun h => nxt_some (a := ahd i cls) HNn.out HMy.out HRl.out h)
    have HNo := boxed (nxt_not (a := ahd i cls) HRl.out)
    have hto := fun W => reftotal_any ((PX I n width s em).ct i j (ahd i cls)) (rsv R m j kc) W
    have HTb : Box (0 ≤ rsv R m j kc → 0 ≤ tt ((PX I n width s em).ct i j (ahd i cls)) (rsv R m j kc)) := boxed (fun h => (tt_bnd _ _ hct.1 h).1)
    generalize (PX I n width s em).ct i j (ahd i cls) = ct at *
    generalize rsv R m j kc = r at *
    generalize tt ct r = u at *
    clear HRl HKc HMy HCt
    go_wp2_with fail
    refine hre.mono ?_
    rintro e w3 ⟨rfl,hb3⟩
    have HB3 := boxed (below_step HB2.out (Nat.le_refl _) hb3)
    clear hb3 hre
    by_cases hr0 : r < 0
    ·have t3 : decide (0 ≤ r) = false := decide_eq_false (by omega)
     have HL2 := boxed (lsj_not HL.out (HNo.out hr0))
     obtain ⟨ge,ee,-,ce⟩ := HEn.out _ HB3.out j hlt
     rw [show (lgs I n n).getD j 0 = bkn I n j from rfl] at ce
     obtain ⟨hx1,hx2⟩ := itb_at I n j (by rw [hM.out];exact hlt)
     obtain ⟨ib,ifo,ei,-,x0,x1,x2,x3,x4,x5,x6,x7,x8⟩ := HFc.out _ HB3.out j hlt
     subst ee
     subst ei
     have hfc := fun W => refforced_any (itb I n j) W
     rw [← hx1] at x0 x1 x2 x3 x4 x5 x6 x7 x8
     have hjm2 : (j : Int) < (m : Int) := by omega
     have hx3 : ((bkn I n j : Nat) : Int) < (n : Int) := by omega
     unfold Itm.val at hfc
     clear hx1
     cases hfo : forc (itb I n j)
     ·have HFo2 : Box (∀ q,q < j + 1 → i ≤ q → forc (itb I n q) = false) := boxed (fun q h1 h2 => by
       by_cases e : q = j
       ·rw [e];exact hfo
       ·exact HFo.out q (by omega) h2)
      rw [hfo] at hfc
      clear hfo HFo HLi HRe HFc HEn
      generalize itb I n j = y at *
      generalize bkn I n j = z at *
      go_wp2_with (go_at_call 72;refine (hfc _).mono ?_;rintro e w9 ⟨rfl,hb9⟩;have HB9 := boxed (below_step HB3.out (Nat.le_refl _) hb9);clear hb9)
      go_roundw
      case rel => exact ⟨j + 1,v,by omega,by omega,rfl,by go_num,HL2,HFo2,HB9⟩
      case measure => simp [intOf];omega
     ·have HLa := boxed (lsj_all (by rw [px_m,hM.out];exact hi) hij (.inl hfo) HL2.out)
      rw [hfo] at hfc
      clear hfo HFo HLi HRe HFc HEn
      generalize itb I n j = y at *
      generalize bkn I n j = z at *
      go_wp2_with (go_at_call 72;refine (hfc _).mono ?_;rintro e w9 ⟨rfl,hb9⟩;have HB9 := boxed (below_step HB3.out (Nat.le_refl _) hb9);clear hb9)
      go_ret
      exact ⟨v,rfl,HLa.out,(HC0.out _ HB9.out).2⟩
    ·have t3 : decide (0 ≤ r) = true := decide_eq_true (by omega)
     have hr1 : 0 ≤ r := by omega
     by_cases hv0 : v < 0
     ·have t4 : decide (v < 0) = true := decide_eq_true hv0
      have HL2 := boxed (lsj_take HL.out (.inl hv0) (HTb.out hr1) (HNs.out hr1))
      obtain ⟨ge,ee,-,ce⟩ := HEn.out _ HB3.out j hlt
      rw [show (lgs I n n).getD j 0 = bkn I n j from rfl] at ce
      obtain ⟨hx1,hx2⟩ := itb_at I n j (by rw [hM.out];exact hlt)
      obtain ⟨ib,ifo,ei,-,x0,x1,x2,x3,x4,x5,x6,x7,x8⟩ := HFc.out _ HB3.out j hlt
      subst ee
      subst ei
      have hfc := fun W => refforced_any (itb I n j) W
      rw [← hx1] at x0 x1 x2 x3 x4 x5 x6 x7 x8
      have hjm2 : (j : Int) < (m : Int) := by omega
      have hx3 : ((bkn I n j : Nat) : Int) < (n : Int) := by omega
      unfold Itm.val at hfc
      clear hx1
      cases hfo : forc (itb I n j)
      ·have HFo2 : Box (∀ q,q < j + 1 → i ≤ q → forc (itb I n q) = false) := boxed (fun q h1 h2 => by
        by_cases e : q = j
        ·rw [e];exact hfo
        ·exact HFo.out q (by omega) h2)
       rw [hfo] at hfc
       clear hfo HFo HLi HRe HFc HEn
       generalize itb I n j = y at *
       generalize bkn I n j = z at *
       go_wp2_with (first | (go_at_call 35;refine (hto _).mono ?_;rintro e w' ⟨rfl,hw'⟩;subst w') | (go_at_call 72;refine (hfc _).mono ?_;rintro e w9 ⟨rfl,hb9⟩;have HB9 := boxed (below_step HB3.out (Nat.le_refl _) hb9);clear hb9))
       go_roundw
       case rel => exact ⟨j + 1,u,by omega,by omega,rfl,by go_num,HL2,HFo2,HB9⟩
       case measure => simp [intOf];omega
      ·have HLa := boxed (lsj_all (by rw [px_m,hM.out];exact hi) hij (.inl hfo) HL2.out)
       rw [hfo] at hfc
       clear hfo HFo HLi HRe HFc HEn
       generalize itb I n j = y at *
       generalize bkn I n j = z at *
       go_wp2_with (first | (go_at_call 35;refine (hto _).mono ?_;rintro e w' ⟨rfl,hw'⟩;subst w') | (go_at_call 72;refine (hfc _).mono ?_;rintro e w9 ⟨rfl,hb9⟩;have HB9 := boxed (below_step HB3.out (Nat.le_refl _) hb9);clear hb9))
       go_ret
       exact ⟨u,rfl,HLa.out,(HC0.out _ HB9.out).2⟩
     ·have t4 : decide (v < 0) = false := decide_eq_false hv0
      by_cases huv : u < v
      ·have t5 : decide (u < v) = true := decide_eq_true huv
       have HL2 := boxed (lsj_take HL.out (.inr huv) (HTb.out hr1) (HNs.out hr1))
       obtain ⟨ge,ee,-,ce⟩ := HEn.out _ HB3.out j hlt
       rw [show (lgs I n n).getD j 0 = bkn I n j from rfl] at ce
       obtain ⟨hx1,hx2⟩ := itb_at I n j (by rw [hM.out];exact hlt)
       obtain ⟨ib,ifo,ei,-,x0,x1,x2,x3,x4,x5,x6,x7,x8⟩ := HFc.out _ HB3.out j hlt
       subst ee
       subst ei
       have hfc := fun W => refforced_any (itb I n j) W
       rw [← hx1] at x0 x1 x2 x3 x4 x5 x6 x7 x8
       have hjm2 : (j : Int) < (m : Int) := by omega
       have hx3 : ((bkn I n j : Nat) : Int) < (n : Int) := by omega
       unfold Itm.val at hfc
       clear hx1
       cases hfo : forc (itb I n j)
       ·have HFo2 : Box (∀ q,q < j + 1 → i ≤ q → forc (itb I n q) = false) := boxed (fun q h1 h2 => by
         by_cases e : q = j
         ·rw [e];exact hfo
         ·exact HFo.out q (by omega) h2)
        rw [hfo] at hfc
        clear hfo HFo HLi HRe HFc HEn
        generalize itb I n j = y at *
        generalize bkn I n j = z at *
        go_wp2_with (first | (go_at_call 35;refine (hto _).mono ?_;rintro e w' ⟨rfl,hw'⟩;subst w') | (go_at_call 72;refine (hfc _).mono ?_;rintro e w9 ⟨rfl,hb9⟩;have HB9 := boxed (below_step HB3.out (Nat.le_refl _) hb9);clear hb9))
        go_roundw
        case rel => exact ⟨j + 1,u,by omega,by omega,rfl,by go_num,HL2,HFo2,HB9⟩
        case measure => simp [intOf];omega
       ·have HLa := boxed (lsj_all (by rw [px_m,hM.out];exact hi) hij (.inl hfo) HL2.out)
        rw [hfo] at hfc
        clear hfo HFo HLi HRe HFc HEn
        generalize itb I n j = y at *
        generalize bkn I n j = z at *
        go_wp2_with (first | (go_at_call 35;refine (hto _).mono ?_;rintro e w' ⟨rfl,hw'⟩;subst w') | (go_at_call 72;refine (hfc _).mono ?_;rintro e w9 ⟨rfl,hb9⟩;have HB9 := boxed (below_step HB3.out (Nat.le_refl _) hb9);clear hb9))
        go_ret
        exact ⟨u,rfl,HLa.out,(HC0.out _ HB9.out).2⟩
      ·have t5 : decide (u < v) = false := decide_eq_false huv
       have HL2 := boxed (lsj_keep HL.out (by omega) (by omega) (HNs.out hr1).2)
       obtain ⟨ge,ee,-,ce⟩ := HEn.out _ HB3.out j hlt
       rw [show (lgs I n n).getD j 0 = bkn I n j from rfl] at ce
       obtain ⟨hx1,hx2⟩ := itb_at I n j (by rw [hM.out];exact hlt)
       obtain ⟨ib,ifo,ei,-,x0,x1,x2,x3,x4,x5,x6,x7,x8⟩ := HFc.out _ HB3.out j hlt
       subst ee
       subst ei
       have hfc := fun W => refforced_any (itb I n j) W
       rw [← hx1] at x0 x1 x2 x3 x4 x5 x6 x7 x8
       have hjm2 : (j : Int) < (m : Int) := by omega
       have hx3 : ((bkn I n j : Nat) : Int) < (n : Int) := by omega
       unfold Itm.val at hfc
       clear hx1
       cases hfo : forc (itb I n j)
       ·have HFo2 : Box (∀ q,q < j + 1 → i ≤ q → forc (itb I n q) = false) := boxed (fun q h1 h2 => by
         by_cases e : q = j
         ·rw [e];exact hfo
         ·exact HFo.out q (by omega) h2)
        rw [hfo] at hfc
        clear hfo HFo HLi HRe HFc HEn
        generalize itb I n j = y at *
        generalize bkn I n j = z at *
        go_wp2_with (first | (go_at_call 35;refine (hto _).mono ?_;rintro e w' ⟨rfl,hw'⟩;subst w') | (go_at_call 72;refine (hfc _).mono ?_;rintro e w9 ⟨rfl,hb9⟩;have HB9 := boxed (below_step HB3.out (Nat.le_refl _) hb9);clear hb9))
        go_roundw
        case rel => exact ⟨j + 1,v,by omega,by omega,rfl,by go_num,HL2,HFo2,HB9⟩
        case measure => simp [intOf];omega
       ·have HLa := boxed (lsj_all (by rw [px_m,hM.out];exact hi) hij (.inl hfo) HL2.out)
        rw [hfo] at hfc
        clear hfo HFo HLi HRe HFc HEn
        generalize itb I n j = y at *
        generalize bkn I n j = z at *
        go_wp2_with (first | (go_at_call 35;refine (hto _).mono ?_;rintro e w' ⟨rfl,hw'⟩;subst w') | (go_at_call 72;refine (hfc _).mono ?_;rintro e w9 ⟨rfl,hb9⟩;have HB9 := boxed (below_step HB3.out (Nat.le_refl _) hb9);clear hb9))
        go_ret
        exact ⟨v,rfl,HLa.out,(HC0.out _ HB9.out).2⟩
  ·obtain rfl : j = m := by omega
   have t1 : decide ((j : Int) < (j : Int)) = false := decide_eq_false (by omega)
   have t1' : decide (j < j) = false := decide_eq_false (by omega)
   have HLa : Box (Lst (PX I n width s em) i (ahd i cls) v) := boxed (by
    obtain ⟨j0,rfl⟩ : ∃ j0,j = j0 + 1 := ⟨j - 1,by omega⟩
    exact lsj_all (by rw [px_m,hM.out];omega) (by omega) (.inr (by rw [px_m,hM.out];omega)) HL.out)
   go_wp2_with fail
   go_ret
   exact ⟨v,rfl,HLa.out,(HC0.out _ HBr.out).2⟩
end
end Go.Proofs.YtcjcdpfjnomehabGreat
namespace Go.Proofs.YtcjcdpfjnomehabGreat
set_option maxRecDepth 100000
set_option maxHeartbeats 40000000
open Go.RowKit
set_option linter.unusedSimpArgs false
set_option linter.unusedVariables false
theorem info_tab : (Tryz.prog.info? 135).map (fun i => (i.zero,i.size,i.bytes)) = some (some (.agg #[.int .i64 0,.int .i64 0,.int .i64 0,.int .i64 0]),4,32) := by kernel_rfl
def TA (arr : Array Value) (m : Nat) (R : Nat → Nat → Int) : Prop := arr.size = m * 4 ∧ ∀ e c,e < m → c < 4 → arr[e * 4 + c]? = some (.int .i64 (R e c))
theorem TA.at {arr : Array Value} {m : Nat} {R : Nat → Nat → Int} (h : TA arr m R) {w : World} {tb : Nat} {t : TypeId} (he : w.heap[tb]? = some (.cells arr t (0,0))) : TbAt w tb m R := fun e c h1 h2 => row_cell he _ _ (h.2 e c h1 h2)
theorem ta_zero (m : Nat) : TA (madeCells #[.int .i64 0,.int .i64 0,.int .i64 0,.int .i64 0] (m * 4)) m (fun _ _ => 0) := by
 refine ⟨size_madeCells _ _,fun e c h1 h2 => ?_⟩
 have key : ∀ k,k < m * 4 → (madeCells #[.int .i64 0,.int .i64 0,.int .i64 0,.int .i64 0] (m * 4))[k]? = some (Value.int .i64 0) := by
  intro k hk
  unfold madeCells
  rw [Array.getElem?_map,Array.getElem?_range,if_pos hk]
  simp only [Option.map_some]
  have : k % 4 < 4 := Nat.mod_lt _ (by omega)
  rcases (show k % 4 = 0 ∨ k % 4 = 1 ∨ k % 4 = 2 ∨ k % 4 = 3 by omega) with h | h | h | h <;> simp [h]
 exact key _ (by omega)
def setT (R : Nat → Nat → Int) (i c : Nat) (x : Int) : Nat → Nat → Int := fun e d => if e = i ∧ d = c then x else R e d
theorem ta_set {arr : Array Value} {m : Nat} {R : Nat → Nat → Int} (h : TA arr m R) (i c : Nat) (hi : i < m) (hc : c < 4) (x : Int) : TA (arr.setIfInBounds (i * 4 + c) (.int .i64 x)) m (setT R i c x) := by
 refine ⟨by simp [h.1],fun e d h1 h2 => ?_⟩
 have hs := h.1
 by_cases ce : e = i ∧ d = c
 ·obtain ⟨rfl,rfl⟩ := ce
  unfold setT
  rw [if_pos ⟨rfl,rfl⟩,Array.getElem?_setIfInBounds]
  simp;omega
 ·unfold setT
  rw [if_neg ce,Array.getElem?_setIfInBounds_ne (by omega)]
  exact h.2 e d h1 h2
section
variable {S S' : Nat → Prop} {w : World} {ao eo : Option Addr} {n c ec : Nat} {I : Nat → Itm} {width : Int} {s : Stg}
structure FiI (w : World) (s : Stg) (G m : Nat) (R : Nat → Nat → Int) (W : World) : Prop where
 bel : Below w.heap.size w W
 sb : W.heap[w.heap.size]? = some (.cells #[.int .i64 s.t,.int .i64 s.l,.int .i64 s.a,.int .i64 s.d,.int .i64 s.z,.int .i64 s.o,.int .i64 s.i] 25 (0,0))
 ta : ∃ arr,W.heap[G]? = some (.cells arr 135 (0,0)) ∧ TA arr m R
theorem FiI.next {G m : Nat} {R : Nat → Nat → Int} {W W' : World} (h : FiI w s G m R W) (hb : Below W.heap.size W W') : FiI w s G m R W' where
 bel := h.bel.trans (hb.mono (by have := heap_lt h.sb;omega))
 sb := (hb.block _ (heap_lt h.sb)).trans h.sb
 ta := by
  obtain ⟨arr,h1,h2⟩ := h.ta
  exact ⟨arr,(hb.block _ (heap_lt h1)).trans h1,h2⟩
theorem FiI.put {G m : Nat} {R : Nat → Nat → Int} {W : World} (h : FiI w s G m R W) (hG : w.heap.size < G) (i c : Nat) (hi : i < m) (hc : c < 4) (x : Int) : (∃ v,W.cell? ⟨G,i * 4 + c,none⟩ = some v) ∧ W.frozen? ⟨G,i * 4 + c,none⟩ = false ∧ FiI w s G m (setT R i c x) (W.setCell ⟨G,i * 4 + c,none⟩ (.int .i64 x)) := by
 obtain ⟨arr,h1,h2⟩ := h.ta
 refine ⟨⟨_,row_cell h1 _ _ (h2.2 i c hi hc)⟩,row_free h1 _,?_,?_,_,arr_set _ h1,ta_set h2 i c hi hc x⟩
 ·exact h.bel.setCell (by simp only;omega) _
 ·rw [Below.heap_setCell W ⟨G,i * 4 + c,none⟩ _ _ (by simp only;omega)];exact h.sb
def TbTo (P : Pr) (R : Nat → Nat → Int) (k x : Nat) : Prop := TbOk P R k ∧ ∀ c,c < x → Lst P k (c : Int) (R (k - 1) c)
theorem tbto_set {P : Pr} {R : Nat → Nat → Int} {k x : Nat} {v : Int} (h : TbTo P R k x) (hk : 0 < k) (hv : Lst P k (x : Int) v) : TbTo P (setT R (k - 1) x v) k (x + 1) := by
 refine ⟨fun e c h1 h2 h3 => ?_,fun c hc => ?_⟩
 ·unfold setT;rw [if_neg (by omega)];exact h.1 e c h1 h2 h3
 ·unfold setT
  by_cases q : c = x
  ·subst q;rw [if_pos ⟨rfl,rfl⟩];exact hv
  ·rw [if_neg (by omega)];exact h.2 c (by omega)
theorem tbto_done {P : Pr} {R : Nat → Nat → Int} {k : Nat} (h : TbTo P R k 4) (hk : 0 < k) : TbOk P R (k - 1) := fun e c h1 h2 h3 => by
 by_cases q : e = k - 1
 ·subst q
  have := h.2 c h3
  rw [show k - 1 + 1 = k by omega];exact this
 ·exact h.1 e c (by omega) h2 h3
theorem fill9_any (h : ItsAt S w ao n I) (hn : n ≤ 262144) (hok : ∀ i,i < n → okI I i = true) (he : NAt S' w eo (lgs I n n)) (hw : 1 ≤ width ∧ width ≤ 1073741824) (hs : okS s = true) (em : Bool) (hp : 0 < nbk I n) :
  Calls Tryz.prog 31 #[.slice ao n c,.slice eo (nbk I n) ec,.int .i64 width,s.val,.bool em] w fun e w' => ∃ tb tc R,e = .returned (.slice (some ⟨tb,0,none⟩) (nbk I n) tc) ∧ (w.heap.size ≤ tb ∧ tb < w'.heap.size) ∧ TbAt w' tb (nbk I n) R ∧ TbOk (PX I n width s em) R 0 ∧ Below w.heap.size w w' := by
 have hl := lgs_len I n n
 have hm : nbk I n ≤ 262144 := by unfold nbk;omega
 obtain ⟨i0,hi,hz0,hz1,hz2⟩ := info_parts info_tab
 have HH := boxed h
 have HE := boxed he
 have hmk : ∀ W : World,(Instr.makeSlice 80 (.int .i64 (nbk I n : Int)) (.int .i64 (nbk I n : Int))).run Tryz.prog W = .ok (.slice (some ⟨W.heap.size,0,none⟩) (nbk I n) (nbk I n)) (W.alloc (.cells (madeCells #[.int .i64 0,.int .i64 0,.int .i64 0,.int .i64 0] (nbk I n * 4)) 135)) := by
  intro W
  have := run_makeSlice (w := W) 80 135 i0 _ Tryz.underlying80 hi hz0 .i64 .i64 (nbk I n : Int) (nbk I n : Int) (by omega) (by omega) (by rw [hz1];simp [Value.cells];omega) (by rw [hz2];omega) (by omega)
  simpa [Value.cells,hz1] using this
 obtain ⟨q0,q1,q2,q3⟩ := laid2 w (.cells #[.int .i64 s.t,.int .i64 s.l,.int .i64 s.a,.int .i64 s.d,.int .i64 s.z,.int .i64 s.o,.int .i64 s.i] 25) (.cells (madeCells #[.int .i64 0,.int .i64 0,.int .i64 0,.int .i64 0] (nbk I n * 4)) 135)
 have HF0 := boxed (show FiI w s (w.heap.size + 1) (nbk I n) (fun _ _ => 0) _ from ⟨q2,q0,_,q1,ta_zero _⟩)
 have HLe := boxed (fun W R (hf : FiI w s (w.heap.size + 1) (nbk I n) R W) (k : Nat) (hk : k < nbk I n) (hR : TbOk (PX I n width s em) R k) (cls : Int) (hcl : 0 ≤ cls ∧ cls ≤ 3) => least9_any (S := S) (S' := S') (c := c) (ec := ec) (tc := nbk I n) (s := s) (HH.out.below hf.bel) hn hok (HE.out.below hf.bel) hw hs em (by obtain ⟨arr,h1,h2⟩ := hf.ta;exact h2.at h1) k hk hR cls hcl)
 obtain ⟨A0,hA0⟩ : ∃ A0 : Array Value,madeCells #[.int .i64 0,.int .i64 0,.int .i64 0,.int .i64 0] (nbk I n * 4) = A0 := ⟨_,rfl⟩
 rw [hA0] at hmk HF0
 unfold Stg.val at *
 clear h he hA0 q0 q1 q2 q3
 generalize hM : nbk I n = m at *
 replace hM := boxed hM
 go_enter Tryz.func31,Tryz.ntmps31
 go_wp2_with fail
 go_loopw [12] (fun iv wr => ∃ (k : Nat) (R : Nat → Nat → Int),k + 1 ≤ m ∧ iv = .int .i64 ((k : Int) - 1) ∧ Box (FiI w s (w.heap.size + 1) m R wr) ∧ Box (TbOk (PX I n width s em) R k)) (fun iv _ => (intOf iv + 1).toNat)
 case atStart => exact ⟨m - 1,fun _ _ => 0,by omega,by go_num,HF0,boxed (fun e c h1 h2 h3 => by rw [px_m,hM.out] at h2;omega)⟩
 case round =>
  obtain ⟨k,R,hk,rfl,HF,HR⟩ := hrel
  clear HF0
  by_cases hk0 : k = 0
  ·subst hk0
   have e1 : ((0 : Nat) : Int) - 1 = -1 := rfl
   rw [e1]
   have HT : Box (TbAt wr (w.heap.size + 1) m R) := boxed (by obtain ⟨arr,h1,h2⟩ := HF.out.ta;exact h2.at h1)
   go_wp2_with fail
   go_ret
   exact ⟨w.heap.size + 1,m,R,rfl,⟨by omega,by obtain ⟨arr,h1,-⟩ := HF.out.ta;exact heap_lt h1⟩,HT.out,HR.out,HF.out.bel⟩
  obtain ⟨k',rfl⟩ : ∃ k',k = k' + 1 := ⟨k - 1,by omega⟩
  have e1 : ((k' + 1 : Nat) : Int) - 1 = (k' : Int) := by omega
  rw [e1]
  have t1 : decide ((0 : Int) ≤ (k' : Int)) = true := decide_eq_true (by omega)
  have HT0 : Box (TbTo (PX I n width s em) R (k' + 1) 0) := boxed ⟨HR.out,fun c hc => by omega⟩
  go_wp2_with fail
  go_loopw [13] (fun cv wq => ∃ (x : Nat) (R' : Nat → Nat → Int),x ≤ 4 ∧ cv = .int .i64 (x : Int) ∧ Box (FiI w s (w.heap.size + 1) m R' wq) ∧ Box (TbTo (PX I n width s em) R' (k' + 1) x)) (fun cv _ => 4 - (intOf cv).toNat)
  case atStart => exact ⟨0,R,by omega,rfl,HF,HT0⟩
  case round =>
   obtain ⟨x,R',hx,rfl,HF',HT'⟩ := hrel
   clear HF HT0 HR
   by_cases hx4 : x < 4
   ·have t2 : decide ((x : Int) < 4) = true := decide_eq_true (by omega)
    have hx42 : (x : Int) < 4 := by omega
    have hk1 : k' < m := by omega
    have hk2 : (k' : Int) < (m : Int) := by omega
    have HF0 : Box (FiI w s (w.heap.size + 1) m R' wr.drew) := boxed (HF'.out.next (Below.refl _ _).drew)
    have hle := HLe.out _ _ HF0.out (k' + 1) (by omega) HT'.out.1 (x : Int) (by omega)
    rw [e1,show ahd (k' + 1) (x : Int) = (x : Int) from rfl] at hle
    have HS : Box (∀ W R2,FiI w s (w.heap.size + 1) m R2 W → W.cell? ⟨w.heap.size,0,none⟩ = some (.int .i64 s.t) ∧ W.cell? ⟨w.heap.size,1,none⟩ = some (.int .i64 s.l) ∧ W.cell? ⟨w.heap.size,2,none⟩ = some (.int .i64 s.a) ∧ W.cell? ⟨w.heap.size,3,none⟩ = some (.int .i64 s.d) ∧ W.cell? ⟨w.heap.size,4,none⟩ = some (.int .i64 s.z) ∧ W.cell? ⟨w.heap.size,5,none⟩ = some (.int .i64 s.o) ∧ W.cell? ⟨w.heap.size,6,none⟩ = some (.int .i64 s.i)) := boxed (fun W R2 hf => (cells7 hf.sb).1)
    go_wp2_with fail
    go_region_held3 (fun W => W.cell? ⟨w.heap.size,0,none⟩ = some (.int .i64 s.t) ∧ W.cell? ⟨w.heap.size,1,none⟩ = some (.int .i64 s.l) ∧ W.cell? ⟨w.heap.size,2,none⟩ = some (.int .i64 s.a) ∧ W.cell? ⟨w.heap.size,3,none⟩ = some (.int .i64 s.d) ∧ W.cell? ⟨w.heap.size,4,none⟩ = some (.int .i64 s.z) ∧ W.cell? ⟨w.heap.size,5,none⟩ = some (.int .i64 s.o) ∧ W.cell? ⟨w.heap.size,6,none⟩ = some (.int .i64 s.i))
     (first | with_reducible exact HS.out _ _ HF0.out | with_reducible exact HS.out _ _ HF6.out | with_reducible exact HS.out _ _ HF7.out)
     (first | (go_at_call 32;with_reducible refine hle.mono ?_;rintro e w6 ⟨v,rfl,hls,hb6⟩;have HF6 := boxed (HF0.out.next hb6);obtain ⟨⟨cv0,hcv⟩,hfz,hf7⟩ := HF6.out.put (by omega) k' x hk1 hx4 v;have HF7 := boxed hf7;have HT7 := boxed (tbto_set HT'.out (by omega) hls);clear hb6 hls hf7))
    go_wp2_with fail
    go_roundw
    case rel => exact ⟨x + 1,_,by omega,by go_num,HF7,HT7⟩
    case measure => simp [intOf];omega
   ·obtain rfl : x = 4 := by omega
    have HR2 := boxed (tbto_done HT'.out (by omega))
    have HF2 := boxed HF'.out
    go_wp2_with fail
    go_roundw
    case rel => exact ⟨k',R',by omega,by go_num,HF2,HR2⟩
    case measure => simp [intOf]
end
end Go.Proofs.YtcjcdpfjnomehabGreat
namespace Go.Proofs.YtcjcdpfjnomehabGreat
set_option maxRecDepth 100000
set_option maxHeartbeats 40000000
open Go.RowKit
set_option linter.unusedSimpArgs false
set_option linter.unusedVariables false
structure FaI (w : World) (s : Stg) (I : Nat → Itm) (n G : Nat) (eo : Option Addr) (tb : Nat) (R : Nat → Nat → Int) (T : Int) (em : Bool) (v : Value) (p : List Nat) (W : World) : Prop where
 bel : Below w.heap.size w W
 sb : W.heap[w.heap.size]? = some (.cells #[.int .i64 s.t,.int .i64 s.l,.int .i64 s.a,.int .i64 s.d,.int .i64 s.z,.int .i64 s.o,.int .i64 s.i] 25 (0,0))
 rb : W.heap[w.heap.size + 1]? = some (.cells #[.slice none 0 0,.int .i64 0,.bool false] 39 (0,0))
 ob : W.heap[G]? = some (.cells #[v,.int .i64 T,.bool em] 39 (0,0))
 ow : W.ownsRow (G + 1) 3 1 v p.length (ncs (p.map (bkn I n)))
 en : NAt (fun x => w.heap.size + 2 ≤ x ∧ x < G) W eo (lgs I n n)
 ta : TbAt W tb (nbk I n) R
 tg : tb < G ∧ w.heap.size + 2 ≤ tb ∧ w.heap.size + 2 ≤ G
section
variable {w W W' : World} {s : Stg} {I : Nat → Itm} {n G : Nat} {eo : Option Addr} {tb : Nat} {R : Nat → Nat → Int} {T : Int} {em : Bool} {v : Value} {p : List Nat}
theorem FaI.next (h : FaI w s I n G eo tb R T em v p W) (hb : Below W.heap.size W W') : FaI w s I n G eo tb R T em v p W' where
 bel := h.bel.trans (hb.mono (by have := heap_lt h.sb;omega))
 sb := (hb.block _ (heap_lt h.sb)).trans h.sb
 rb := (hb.block _ (heap_lt h.rb)).trans h.rb
 ob := (hb.block _ (heap_lt h.ob)).trans h.ob
 ow := owns_below h.ow hb
 en := h.en.below hb
 ta := h.ta.below hb
 tg := h.tg
theorem FaI.grow (h : FaI w s I n G eo tb R T em v p W) {v1 : Value} {z : World} {W0 : World} (h0 : Below W.heap.size W W0) (hg : W0.grownBy z v.ownBlock) (j y : Nat) (hy : bkn I n j = y) (ho : z.ownsRow (G + 1) 3 1 v1 (p.length + 1) (ncs (p.map (bkn I n)) ++ [.int .i64 (y : Int)])) :
  (z.cell? ⟨G,0,none⟩ = some v ∧ z.frozen? ⟨G,0,none⟩ = false) ∧ FaI w s I n G eo tb R T em v1 (p ++ [j]) (z.setCell ⟨G,0,none⟩ v1) := by
 have hGW := heap_lt h.ob
 have hbl : ∀ q,q < G + 1 → z.heap[q]? = W.heap[q]? := fun q hq => by
  rw [hg.block q (by have := h0.size;omega) (fun e => by have := (h.ow.lt q e.symm).1;omega)]
  exact h0.block q (by omega)
 have e1 : z.heap[G]? = _ := (hbl G (by omega)).trans h.ob
 obtain ⟨g1,g2,g3⟩ := h.tg
 have hcell : ∀ (q i : Nat) (u : Value),q < G → W.cell? ⟨q,i,none⟩ = some u → (z.setCell ⟨G,0,none⟩ v1).cell? ⟨q,i,none⟩ = some u := fun q i u hq hu => by
  rw [World.cell?_of_block (w := z) (a := ⟨q,i,none⟩) (Below.heap_setCell z ⟨G,0,none⟩ v1 q (by simp only;omega)),World.cell?_of_block (w := W) (a := ⟨q,i,none⟩) (hbl q (by omega))]
  exact hu
 have hsz : W.heap.size ≤ z.heap.size := Nat.le_trans h0.size hg.size
 have b1 : Below w.heap.size w z := ⟨hg.os.trans (h0.os.trans h.bel.os),hg.tape.trans (h0.tape.trans h.bel.tape),hg.output.trans (h0.output.trans h.bel.output),by have := h.bel.size;omega,fun q hq => (hbl q (by omega)).trans (h.bel.block q hq)⟩
 refine ⟨⟨row_cell e1 0 _ rfl,row_free e1 0⟩,⟨b1.setCell (by simp only;omega) _,?_,?_,arr_set v1 e1,?_,?_,?_,h.tg⟩⟩
 ·rw [Below.heap_setCell z ⟨G,0,none⟩ v1 _ (by simp only;omega)];exact (hbl _ (by omega)).trans h.sb
 ·rw [Below.heap_setCell z ⟨G,0,none⟩ v1 _ (by simp only;omega)];exact (hbl _ (by omega)).trans h.rb
 ·have := ownsRow_setCell_below ho (a := ⟨G,0,none⟩) (by simp) v1
  rw [List.length_append,List.map_append,ncs_app]
  simpa [ncs,hy] using this
 ·intro i hi
  obtain ⟨b,e,hb,hc⟩ := h.en i hi
  exact ⟨b,e,hb,hcell b i _ hb.2 hc⟩
 ·intro e c h1 h2
  exact hcell tb _ _ g1 (h.ta e c h1 h2)
theorem FaI.out (h : FaI w s I n G eo tb R T em v p W) : (W.setCells (w.heap.size + 1) 0 [v,.int .i64 T,.bool em]).heap[w.heap.size + 1]? = some (.cells #[v,.int .i64 T,.bool em] 39 (0,0)) ∧ Below w.heap.size w (W.setCells (w.heap.size + 1) 0 [v,.int .i64 T,.bool em]) ∧ (W.setCells (w.heap.size + 1) 0 [v,.int .i64 T,.bool em]).ownsRow (G + 1) 3 1 v p.length (ncs (p.map (bkn I n))) := by
 refine ⟨sets_heap _ _ _ 0 _ _ h.rb,h.bel.trans (sets_below _ _ (by omega) _ _ _),?_⟩
 have g := h.tg
 have hG : w.heap.size + 1 < G + 1 := by omega
 simp only [World.setCells]
 exact ownsRow_setCell_below (ownsRow_setCell_below (ownsRow_setCell_below h.ow (a := ⟨w.heap.size + 1,0,none⟩) hG v) (a := ⟨w.heap.size + 1,0 + 1,none⟩) hG (.int .i64 T)) (a := ⟨w.heap.size + 1,0 + 1 + 1,none⟩) hG (.bool em)
end
def FaP (P : Pr) (c : Int) (l : List Nat) (p : List Nat) (st : Nat) (a t cl : Int) : Prop := Best P 0 (-1) c l ∧ (∃ q,l = p ++ q) ∧ pf P 0 (-1) 0 p = some (st,a,t) ∧ ahd st cl = a ∧ 0 ≤ cl ∧ cl ≤ 3
theorem fap_zero {P : Pr} {c : Int} {l : List Nat} (h : Best P 0 (-1) c l) : FaP P c l [] 0 (-1) 0 0 := ⟨h,⟨l,rfl⟩,rfl,rfl,by omega,by omega⟩
theorem fap_end {P : Pr} (hN : Nn P) {c : Int} {l p : List Nat} {st : Nat} {a t cl : Int} (h : FaP P c l p st a t cl) (hs : P.m ≤ st) : l = p := by
 obtain ⟨h1,⟨q,rfl⟩,h3,-⟩ := h
 obtain ⟨c',h4,-⟩ := (pf_cost hN h3).2.2 _ h1.1
 cases q with
 | nil => simp
 | cons x q =>
  obtain ⟨hs',-⟩ := cw_cons P _ _ _ _ _ h4
  have := (mayL_iff P _ _).1 hs'
  omega
theorem fap_next {P : Pr} (hN : Nn P) {c : Int} {l p : List Nat} {st : Nat} {a t cl : Int} (h : FaP P c l p st a t cl) (hs : st < P.m) : ∃ x,st ≤ x ∧ x < P.m ∧ mayL P st x = true ∧
  (∀ j r,st ≤ j → j ≤ x → Lst P (j + 1) (P.kl st j) r → (P.dz st j = true → mayL P st j = true) ∧ ((P.dz st j = true ∧ 0 ≤ r ∧ tt (tt t (P.ct st j a)) r = c) ↔ j = x)) ∧
  (0 ≤ P.kl st x → P.kl st x ≤ 3 → FaP P c l (p ++ [x]) (x + 1) (P.kl st x) (tt t (P.ct st x a)) (P.kl st x)) := by
 obtain ⟨h1,⟨q,rfl⟩,h3,h4,h5,h6⟩ := h
 obtain ⟨c',k1,-⟩ := (pf_cost hN h3).2.2 _ h1.1
 cases q with
 | nil => simp only [cw] at k1;rw [if_neg (by omega)] at k1;cases k1
 | cons x q =>
  obtain ⟨hs',-⟩ := cw_cons P _ _ _ _ _ k1
  obtain ⟨m1,m2,-,-⟩ := (mayL_iff P _ _).1 hs'
  refine ⟨x,m1,m2,hs',fun j r hj hjx hr => ?_,fun g1 g2 => ⟨h1,⟨q,by simp⟩,pf_snoc P p 0 (-1) 0 st a t x h3 hs',?_,g1,g2⟩⟩
  ·have := fast_next hN h1 h3 j r hj hjx hr
   exact this.2
  ·unfold ahd;rw [if_neg (by omega)]
end Go.Proofs.YtcjcdpfjnomehabGreat
namespace Go.Proofs.YtcjcdpfjnomehabGreat
set_option maxRecDepth 100000
set_option maxHeartbeats 40000000
open Go.RowKit
set_option linter.unusedSimpArgs false
set_option linter.unusedVariables false
section
variable {S : Nat → Prop} {w : World} {ao : Option Addr} {n c : Nat} {I : Nat → Itm} {width : Int} {s : Stg}
theorem fast0_any (h : ItsAt S w ao n I) (hn : n ≤ 262144) (hok : ∀ i,i < n → okI I i = true) (hw : 1 ≤ width ∧ width ≤ 1073741824) (hs : okS s = true) (hm : 0 < nbk I n) (c0 : Int) (l0 : List Nat) (hB : Best (PX I n width s false) 0 (-1) c0 l0) (hc0 : 0 ≤ c0 ∧ c0 ≤ Awf) :
  Calls Tryz.prog 10 #[.slice ao n c,.int .i64 width,s.val] w fun e w' => ∃ bo bc,e = .returned (.agg #[.slice bo l0.length bc,.int .i64 c0,.bool false]) ∧ NAt (fun _ => True) w' bo (l0.map (bkn I n)) ∧ Below w.heap.size w w' := by
 have hl := lgs_len I n n
 have hm262 : nbk I n ≤ 262144 := by unfold nbk;omega
 unfold Awf at hc0
 obtain ⟨q0,q1,q2,q3⟩ := laid2 w (.cells #[.int .i64 s.t,.int .i64 s.l,.int .i64 s.a,.int .i64 s.d,.int .i64 s.z,.int .i64 s.o,.int .i64 s.i] 25) (.cells #[.slice none 0 0,.int .i64 0,.bool false] 39)
 have HH := boxed h
 have hL := reflegal8_any S ao n c I _ (h.below q2) hn
 have HQ := boxed (And.intro q0 (And.intro q1 (And.intro q2 q3)))
 rw [q3,show (lgs I n n).length = nbk I n from rfl] at hL
 unfold Stg.val
 clear h q0 q1 q2 q3
 go_enter Tryz.func10,Tryz.ntmps10
 go_wp2_with fail
 refine hL.mono ?_
 rintro e w1 ⟨v1,rfl,ho,hb1⟩
 obtain ⟨eo,ec,rfl⟩ := own_shape ho
 have hen1 := own_nat ho rfl
 have hbw1 : Below w.heap.size w w1 := HQ.out.2.2.1.trans (hb1.mono (by omega))
 have hsb1 := (hb1.block w.heap.size (by omega)).trans HQ.out.1
 have hrb1 := (hb1.block (w.heap.size + 1) (by omega)).trans HQ.out.2.1
 obtain ⟨⟨s0,s1,s2,s3,s4,s5,s6⟩,-⟩ := cells7 hsb1
 have hz1 := heap_lt hrb1
 have hfi := fill9_any (S := S) (c := c) (ec := ec) (s := s) (HH.out.below hbw1) hn hok hen1 hw hs false hm
 unfold Stg.val at hfi
 have HZ1 := boxed (And.intro hen1 (And.intro hbw1 (And.intro hsb1 hrb1)))
 clear ho hb1 hL hen1 hbw1 hsb1 hrb1 HQ
 go_wp2_with fail
 refine hfi.mono ?_
 rintro e w2 ⟨tb,tc,R,rfl,htb,hta,htk,hb2⟩
 obtain ⟨hen1,hbw1,hsb1,hrb1⟩ := HZ1.out
 have hbw2 : Below w.heap.size w w2 := below_step hbw1 (Nat.le_refl _) hb2
 have hsb2 := (hb2.block _ (heap_lt hsb1)).trans hsb1
 have hrb2 := (hb2.block _ (heap_lt hrb1)).trans hrb1
 have hen2 := hen1.below hb2
 have hle := least9_any (S := S) (c := c) (ec := ec) (tc := tc) (s := s) (HH.out.below hbw2) hn hok hen2 hw hs false hta 0 hm htk 0 (by omega)
 rw [show ((0 : Nat) : Int) - 1 = -1 from rfl,show ahd 0 0 = -1 from rfl] at hle
 unfold Stg.val at hle
 clear s0 s1 s2 s3 s4 s5 s6 hfi hen1 hbw1 hsb1 hrb1 HZ1
 obtain ⟨⟨s0,s1,s2,s3,s4,s5,s6⟩,-⟩ := cells7 hsb2
 have HZ2 := boxed (And.intro hen2 (And.intro hbw2 (And.intro hsb2 (And.intro hrb2 (And.intro hta (And.intro htk (And.intro htb hb2)))))))
 clear hen2 hbw2 hsb2 hrb2 hta htk htb hb2
 go_wp2_with fail
 refine hle.mono ?_
 rintro e w3 ⟨v,rfl,hv,hb3⟩
 obtain rfl : c0 = v := (lst_best hv hB hc0.1).symm
 have t0 : decide (c0 < 0) = false := decide_eq_false (by omega)
 obtain ⟨W3,hW3⟩ : ∃ W3,W3 = w3 := ⟨_,rfl⟩
 subst hW3
 obtain ⟨hen2,hbw2,hsb2,hrb2,hta2,htk2,htb2,hb2⟩ := HZ2.out
 have hbw3 : Below w.heap.size w W3 := below_step hbw2 (Nat.le_refl _) hb3
 have hsb3 := (hb3.block _ (heap_lt hsb2)).trans hsb2
 have hrb3 := (hb3.block _ (heap_lt hrb2)).trans hrb2
 have hen3 := hen2.below hb3
 have hta3 := hta2.below hb3
 have htk3 := htk2
 have htb : w.heap.size + 2 ≤ tb ∧ tb < W3.heap.size := ⟨by omega,by have := hb3.size;omega⟩
 clear hen2 hbw2 hsb2 hrb2 hta2 htk2 htb2 hb2 HZ2 hb3 hle s0 s1 s2 s3 s4 s5 s6 hv
 have HNn := boxed (px_nn I n width s false hok hs)
 have hz0 := heap_lt hrb3
 have HA0 : Box (FaI w s I n W3.heap.size eo tb R c0 false (.slice none 0 0) [] (W3.alloc (.cells #[.slice none 0 0,.int .i64 c0,.bool false] 39))) := boxed (by
  have hba : Below W3.heap.size W3 (W3.alloc (.cells #[.slice none 0 0,.int .i64 c0,.bool false] 39)) := (Below.refl _ _).alloc (Nat.le_refl _) _
  refine ⟨hbw3.alloc hbw3.size _,(hba.block _ (heap_lt hsb3)).trans hsb3,(hba.block _ hz0).trans hrb3,heap_alloc_new W3 _,World.ownsRow_nil _ _ _ _,?_,hta3.below hba,⟨htb.2,htb.1,by omega⟩⟩
  intro i hi
  obtain ⟨b,e,hb,hc⟩ := hen3 i hi
  exact ⟨b,e,⟨hb,by have := World.block_lt_of_cell? W3 _ hc;simpa using this⟩,hold hba hc⟩)
 have HP0 := boxed (fap_zero hB)
 have HTk := boxed htk3
 have HLi := boxed (fun W v p (hf : FaI w s I n W3.heap.size eo tb R c0 false v p W) (st j : Nat) (hst : st ≤ nbk I n) (hj : j < nbk I n) (cl : Int) (hcl : -1 ≤ cl ∧ cl ≤ 3) => line9_any (S := S) (c := c) (ec := ec) (s := s) (HH.out.below hf.bel) hn hok hf.en hw st j hst hj cl hcl false)
 have HRe := boxed (fun W v p (hf : FaI w s I n W3.heap.size eo tb R c0 false v p W) (j x : Nat) (hj : j < nbk I n) (hx : x < 4) => rest9_any W tb (nbk I n) tc R eo ec hf.ta hm262 j x hj hx)
 have HCl : Box (∀ i j : Nat,0 ≤ (PX I n width s false).kl i j ∧ (PX I n width s false).kl i j ≤ 3) := boxed (fun i j => by have := ftb_cls I n width ((i : Int) - 1) j;exact ⟨this.1,this.2.1⟩)
 have HMp : Box ((PX I n width s false).m = nbk I n) := boxed rfl
 generalize hM : nbk I n = m at *
 replace hM := boxed hM
 clear hbw3 hsb3 hrb3 hta3 hen3 htk3 htb hB
 unfold Stg.val at HLi
 go_wp2_with fail
 go_loopw [12,13,14] (fun sv cv iv wr => ∃ (p : List Nat) (st : Nat) (a t cl : Int) (v : Value),st ≤ m ∧ sv = .int .i64 t ∧ cv = .int .i64 cl ∧ iv = .int .i64 ((st : Int) - 1) ∧ Box (FaP (PX I n width s false) c0 l0 p st a t cl) ∧ Box (FaI w s I n W3.heap.size eo tb R c0 false v p wr)) (fun _ _ iv _ => m - (intOf iv + 1).toNat)
 case atStart => exact ⟨[],0,-1,0,0,_,Nat.zero_le _,rfl,rfl,rfl,HP0,HA0⟩
 case round =>
  obtain ⟨p,st,a,t,cl,v,hst,rfl,rfl,rfl,HP,HA⟩ := hrel
  clear HP0 HA0
  by_cases hsm : st < m
  ·have t1 : decide ((st : Int) - 1 < (m : Int) - 1) = true := decide_eq_true (by omega)
   obtain ⟨x,hx1,hx2,hmx,hnx,hfx⟩ := fap_next HNn.out HP.out (by rw [HMp.out];exact hsm)
   rw [HMp.out] at hx2
   have HNx := boxed hnx
   have HFx := boxed (hfx (HCl.out st x).1 (HCl.out st x).2)
   have hcl := HP.out.2.2.2.2
   have ha := HP.out.2.2.2.1
   have htb := (pf_cost (r := []) HNn.out HP.out.2.2.1).1
   unfold Awf at htb
   have HAh := boxed ha
   clear hnx hfx hmx ha HP
   have u0 : ((st : Int) - 1) + 1 = (st : Int) := by omega
   go_wp2_with fail
   go_loopw [12,13,14,16] (fun sv cv iv jv wq => sv = .int .i64 t ∧ cv = .int .i64 cl ∧ iv = .int .i64 ((st : Int) - 1) ∧ ∃ j : Nat,st ≤ j ∧ j ≤ x ∧ jv = .int .i64 (j : Int) ∧ Box (FaI w s I n W3.heap.size eo tb R c0 false v p wq)) (fun _ _ _ jv _ => m - (intOf jv).toNat)
   case atStart => exact ⟨rfl,rfl,rfl,st,Nat.le_refl _,hx1,by go_num,HA⟩
   case round =>
    obtain ⟨rfl,rfl,rfl,j,hj1,hj2,rfl,HA1⟩ := hrel
    clear HA
    have hjm : j < m := by omega
    have t2 : decide ((j : Int) < (m : Int)) = true := decide_eq_true (by omega)
    have t2' : decide (j < m) = true := decide_eq_true hjm
    have hli := HLi.out _ _ _ HA1.out st j hst hjm cl (by omega)
    rw [HAh.out] at hli
    obtain ⟨⟨s0,s1,s2,s3,s4,s5,s6⟩,-⟩ := cells7 HA1.out.sb
    obtain ⟨kc,hkc⟩ : ∃ kc : Nat,(PX I n width s false).kl st j = (kc : Int) := ⟨((PX I n width s false).kl st j).toNat,by have := HCl.out st j;omega⟩
    have hkc4 : kc < 4 := by have := HCl.out st j;omega
    have HRl : Box (Lst (PX I n width s false) (j + 1) ((PX I n width s false).kl st j) (rsv R m j kc)) := boxed (by
     have := rsv_lst HTk.out (Nat.zero_le j) (by rw [HMp.out];exact hjm) kc hkc4
     rw [HMp.out] at this
     rw [hkc];exact this)
    have hnx := HNx.out j _ hj1 hj2 HRl.out
    cases hD : (PX I n width s false).dz st j
    ·rw [hD,if_neg (by simp),if_neg (by simp)] at hli
     have hjx : j ≠ x := fun e => by have := (hnx.2.2 e).1;rw [hD] at this;cases this
     clear hD hnx HRl hkc
     go_wp2_with fail
     refine hli.mono ?_
     rintro e w2 ⟨rfl,hb2⟩
     have HA2 := boxed (HA1.out.next hb2)
     clear hb2 hli s0 s1 s2 s3 s4 s5 s6
     go_wp2_with fail
     go_roundw
     case rel => exact ⟨rfl,rfl,rfl,j + 1,by omega,by omega,by go_num,HA2⟩
     case measure => simp [intOf];omega
    ·rw [hD,if_pos rfl,if_pos rfl] at hli
     have hmy := hnx.1 hD
     have hct := HNn.out st j a hmy
     have hrb := lst_bnd HNn.out HRl.out
     unfold Awf at hct hrb
     have HIf : Box ((0 ≤ rsv R m j kc ∧ tt (tt t ((PX I n width s false).ct st j a)) (rsv R m j kc) = c0) ↔ j = x) := boxed ⟨fun h => hnx.2.1 ⟨hD,h.1,h.2⟩,fun h => (hnx.2.2 h).2⟩
     have HKc := boxed hkc
     rw [hkc] at hli
     have t3 : decide ((PX I n width s false).ct st j a < 0) = false := decide_eq_false (by omega)
     have hto1 := fun W => reftotal_any t ((PX I n width s false).ct st j a) W
     have hto2 := fun W => reftotal_any (tt t ((PX I n width s false).ct st j a)) (rsv R m j kc) W
     have hre0 := fun W v p hf => HRe.out W v p hf j kc hjm hkc4
     have HRe0 := boxed hre0
     have HCt : Box (∃ ct,(PX I n width s false).ct st j a = ct) := boxed ⟨_,rfl⟩
     have HFy : Box (j = x → FaP (PX I n width s false) c0 l0 (p ++ [j]) (j + 1) (kc : Int) (tt t ((PX I n width s false).ct st j a)) (kc : Int)) := boxed (fun e => by subst e;have := HFx.out;rw [HKc.out] at this;exact this)
     clear hD hnx HRl hkc hmy hre0 HKc HCt
     generalize (PX I n width s false).ct st j a = ct at *
     generalize rsv R m j kc = r at *
     generalize tt t ct = u at *
     generalize tt u r = q at *
     go_wp2_with fail
     refine hli.mono ?_
     rintro e w2 ⟨rfl,hb2⟩
     have HA2 := boxed (HA1.out.next hb2)
     have hre := HRe0.out _ _ _ HA2.out
     clear hb2 hli s0 s1 s2 s3 s4 s5 s6
     go_wp2_with fail
     refine hre.mono ?_
     rintro e w3 ⟨rfl,hb3⟩
     have HA3 := boxed (HA2.out.next hb3)
     clear hb3 hre HRe0
     by_cases hr0 : r < 0
     ·have t4 : decide (0 ≤ r) = false := decide_eq_false (by omega)
      have hjx : j ≠ x := fun e => by have := (HIf.out.2 e).1;omega
      go_wp2_with fail
      go_roundw
      case rel => exact ⟨rfl,rfl,rfl,j + 1,by omega,by omega,by go_num,HA3⟩
      case measure => simp [intOf];omega
     have t4 : decide (0 ≤ r) = true := decide_eq_true (by omega)
     by_cases hq : q = c0
     ·have hjx : j = x := HIf.out.1 ⟨by omega,hq⟩
      have t5 : (q == c0) = true := by rw [beq_iff_eq];exact hq
      have HPn := boxed (HFy.out hjx)
      clear HIf HFy hq hjx
      go_wp2_with (first | (go_at_call 35;with_reducible refine (hto1 _).mono ?_;rintro e w' ⟨rfl,hw'⟩;subst w') | (go_at_call 35;with_reducible refine (hto2 _).mono ?_;rintro e w' ⟨rfl,hw'⟩;subst w'))
      obtain ⟨a1,c1,rfl⟩ := own_shape HA3.out.ow
      obtain ⟨i0,hi,hz0,hz1,hz2⟩ := info_parts info_int8
      obtain ⟨ge,ee,hgS,ce⟩ := HA3.out.en j (by show j < nbk I n;rw [hM.out];exact hjm)
      rw [show (lgs I n n).getD j 0 = bkn I n j from rfl] at ce
      subst ee
      obtain ⟨y,hy⟩ : ∃ y,bkn I n j = y := ⟨_,rfl⟩
      rw [hy] at ce
      obtain ⟨⟨r0,r1,r2⟩,r3,-⟩ := cells3 HA3.out.ob
      have hGz := heap_lt HA3.out.ob
      have hgz := World.block_lt_of_cell? w3 _ ce
      simp only at hgz
      have n1 : W3.heap.size ≠ w3.heap.size := by omega
      have n2 : ge ≠ w3.heap.size := by omega
      have hjm2 : (j : Int) < (m : Int) := by omega
      have hbase : W3.heap.size + 1 ≤ (w3.alloc (.cells #[.int .i64 (y : Int)] 3)).drew.heap.size := by simp [World.drew];omega
      have HOW : Box ((w3.alloc (.cells #[.int .i64 (y : Int)] 3)).drew.ownsRow (W3.heap.size + 1) 3 1 (.slice a1 p.length c1) p.length (ncs (p.map (bkn I n)))) := boxed (owns_below HA3.out.ow (((Below.refl _ _).alloc (Nat.le_refl _) _).drew))
      have HNW : Box (∀ q u,([.int .i64 (y : Int)] : List Value)[q]? = some u → (w3.alloc (.cells #[.int .i64 (y : Int)] 3)).drew.cell? ((⟨w3.heap.size,0,none⟩ : Addr).add q) = some u) := boxed (by
       intro q u hq
       rw [Addr.add_lit,Nat.zero_add,World.cell?_drew,cell_first]
       simpa using hq)
      have HF : Box (∀ v1 z,(w3.alloc (.cells #[.int .i64 (y : Int)] 3)).drew.grownBy z (Value.slice a1 p.length c1).ownBlock → z.ownsRow (W3.heap.size + 1) 3 1 v1 (p.length + 1) (ncs (p.map (bkn I n)) ++ [.int .i64 (y : Int)]) → (z.cell? ⟨W3.heap.size,0,none⟩ = some (.slice a1 p.length c1) ∧ z.frozen? ⟨W3.heap.size,0,none⟩ = false) ∧ FaI w s I n W3.heap.size (some ⟨ge,0,none⟩) tb R c0 false v1 (p ++ [j]) (z.setCell ⟨W3.heap.size,0,none⟩ v1)) := boxed (fun v1 z hg ho => HA3.out.grow (((Below.refl _ _).alloc (Nat.le_refl _) _).drew) hg j y hy ho)
      have hpl : p.length ≤ 262144 := by
       have h1 := cw_len _ _ _ _ _ HPn.out.1.1
       obtain ⟨qq,e2⟩ := HPn.out.2.1
       rw [e2] at h1
       simp only [List.length_append] at h1
       rw [HMp.out] at h1
       omega
      have hnl : p.length + 1 ≤ maxLen := by unfold maxLen;omega
      have t6 : ((j : Int) == (st : Int) - 1) = false := by rw [beq_eq_false_iff_ne];omega
      clear r1 r2 HA3 HA2 HA1
      generalize p.length = pl at *
      go_region_law
       (first
        | (refine step_append_own9 rfl _ _ 37 rfl (W3.heap.size + 1) 3 i0 _ 1 8 Tryz.underlying37 hi hz0 hz1 hz2 rfl (by decide) _ _ _ rfl HOW.out ⟨w3.heap.size,0,none⟩ 1 1 [.int .i64 (y : Int)] rfl rfl HNW.out (by intro u hu;simp at hu;subst hu;rfl) hnl (by omega) hbase ?_;intro z1 z2 ho1 hg1;obtain ⟨a2,c2,rfl⟩ := own_shape ho1;obtain ⟨⟨k1,k2⟩,k3⟩ := HF.out _ z2 hg1 ho1;have HK3 := boxed k3;clear k3 ho1 hg1))
      all_goals
       go_wp2_with (go_at_call 35;with_reducible refine (hto1 _).mono ?_;rintro e w' ⟨rfl,hw'⟩;subst w')
       go_roundw
       case rel => exact ⟨p ++ [j],j + 1,(kc : Int),u,(kc : Int),_,by omega,rfl,rfl,congrArg _ (by omega),HPn,HK3⟩
       case measure => simp [intOf];omega
     ·have hjx : j ≠ x := fun e => hq (HIf.out.2 e).2
      have t5 : (q == c0) = false := by rw [beq_eq_false_iff_ne];exact hq
      clear HIf HFy hq
      go_wp2_with (first | (go_at_call 35;with_reducible refine (hto1 _).mono ?_;rintro e w' ⟨rfl,hw'⟩;subst w') | (go_at_call 35;with_reducible refine (hto2 _).mono ?_;rintro e w' ⟨rfl,hw'⟩;subst w'))
      go_roundw
      case rel => exact ⟨rfl,rfl,rfl,j + 1,by omega,by omega,by go_num,HA3⟩
      case measure => simp [intOf];omega
  ·obtain rfl : st = m := by omega
   have t1 : decide ((st : Int) - 1 < (st : Int) - 1) = false := decide_eq_false (by omega)
   obtain rfl := fap_end HNn.out HP.out (by rw [HMp.out];omega)
   obtain ⟨bo,bc,rfl⟩ := own_shape HA.out.ow
   obtain ⟨⟨r0,r1,r2⟩,-⟩ := cells3 HA.out.ob
   obtain ⟨⟨p0,p1,p2⟩,p3,p4,p5⟩ := cells3 HA.out.rb
   have HA7 := HA.out.out
   simp only [World.setCells,Nat.zero_add,Nat.reduceAdd] at HA7
   replace HA7 := boxed HA7
   clear HA HP
   generalize hll : l0.length = ll at *
   replace hll := boxed hll
   go_wp2_with fail
   refine bodyPost_ret (v := .agg #[.slice bo ll bc,.int .i64 c0,.bool false]) ?_ ?_ ?_
   ·exact results_cell_row Tryz.results10 _ _ (w.heap.size + 1) 39 #[.slice bo ll bc,.int .i64 c0,.bool false] (0,0) _ rfl HA7.out.1 Tryz.underlying39 rfl (by kernel_rfl)
   ·rfl
   ·exact ⟨bo,bc,by rw [hll.out],(own_nat HA7.out.2.2 (by rw [List.length_map,hll.out])).keep (kp_more (fun _ _ => trivial) (Below.refl _ _)),HA7.out.2.1⟩
end
end Go.Proofs.YtcjcdpfjnomehabGreat
