/- What a paragraph's upTo, Line, Bounds and Fit answer. -/
import Derived.Deep.RegionHeld3
import Derived.Deep.RegionWith
import Derived.Lib.QuietBelow
import Derived.BigQuiet
import Derived.Test.YtcjcdpfjnomehaaGreatPl10
import Derived.Test.YtcjcdpfjnomehaaGreatPl6
namespace Go.Proofs.YtcjcdpfjnomehaaGreat
set_option maxRecDepth 100000
set_option maxHeartbeats 40000000
open Go.RowKit
set_option linter.unusedSimpArgs false
set_option linter.unusedVariables false
theorem pre_fit (I:Nat → Itm) (n:Nat) (hn:n ≤ 262144) (hok:∀ i,i < n → okI I i = true) (k:Nat) (hk:k ≤ n):Sfit (pre I k) := by
 have := pre_le I n hok k hk
 unfold Sfit
 omega
theorem upt_le (I:Nat → Itm) (n:Nat) (hn:n ≤ 262144) (hok:∀ i,i < n → okI I i = true) (a b:Int):(0 ≤ (upt I n a b).w ∧ (upt I n a b).w ≤ 18014398509481984) ∧ (0 ≤ (upt I n a b).st ∧ (upt I n a b).st ≤ 18014398509481984) ∧ (0 ≤ (upt I n a b).sh ∧ (upt I n a b).sh ≤ 18014398509481984) ∧ (0 ≤ (upt I n a b).f ∧ (upt I n a b).f ≤ 262144) := by
 unfold upt
 split
 ·rename_i h
  have h1 := pre_le I n hok b.toNat (by omega)
  have h2 := pre_le I n hok (sta I n a) (sta_le I n a)
  have h3 := pre_mono I n hok (sta I n a) b.toNat (by omega) (by omega)
  simp only [Sm.sub]
  omega
 ·simp [Sm.zero]
section
variable {S:Nat → Prop} {w:World} {pb n:Nat} {I:Nat → Itm}
theorem upTo_any (h:ParaAt S w pb n I) (hn:n ≤ 262144) (hok:∀ i,i < n → okI I i = true) (a b:Int):Calls Tryz.prog 159 #[.pointer (some ⟨pb,0,none⟩),.int .i64 a,.int .i64 b] w fun e w' => e = .returned (upt I n a b).val ∧ Below w.heap.size w w' := by
 obtain ⟨w0,hw0,hb0,hz0,HN⟩ := res4 w _ rfl
 replace HN := boxed HN
 have h' := h.below hb0
 obtain ⟨lo',lc',eo',ec',so',sc',uo',uc,-,⟨k0,k1,k2,k3,k4⟩,-,-,-,g4⟩ := h
 have hst := start_any h' hn a
 have hhas := has_any h' hn b
 have hsl := sta_le I n a
 obtain ⟨lo,lc,eo,ec,so,sc,uo,uc2,hs,⟨c0,c1,c2,c3,c4⟩,h1,h2,h3,h4⟩ := h'
 clear h1 h2 h3
 unfold hasI at hhas
 have HB0 := boxed hb0
 clear hb0
 by_cases g1:0 ≤ b ∧ b < (n:Int)
 ·have e1:(decide (0 ≤ b) && decide (b < (n:Int))) = true := by simp [g1]
  rw [e1] at hhas
  clear e1
  obtain ⟨b,rfl⟩:∃ j:Nat,b = (j:Int) := ⟨b.toNat,by omega⟩
  have hbn:b < n := by omega
  by_cases g2:sta I n a < b
  ·have hU:upt I n a (b:Int) = (pre I b).sub (pre I (sta I n a)) := by unfold upt;rw [if_pos (by omega),Int.toNat_natCast]
   have hle := fun w => less_any (pre I b) (pre I (sta I n a)) w (pre_fit I n hn hok b (by omega)) (pre_fit I n hn hok _ hsl)
   rw [hU]
   generalize sta I n a = s0 at *
   have t1:decide ((b:Int) ≤ (s0:Int)) = false := decide_eq_false (by omega)
   have t1':decide (b ≤ s0) = false := decide_eq_false (by omega)
   obtain ⟨ub,e,-,d0,d1,d2,d3⟩ := g4 b hbn
   obtain ⟨ub',e',-,f0,f1,f2,f3⟩ := g4 s0 (by omega)
   subst e
   injection e' with e'
   injection e' with e1 e2 e3
   subst e1
   clear g4 h4 hU e2 e3
   unfold Sm.val at hle ⊢
   generalize pre I b = P at *
   generalize pre I s0 = Q at *
   generalize P.sub Q = R at *
   have HX:Box (∀ W,Below w.heap.size w W → (W.cell? ⟨pb,3,none⟩ = some (.slice (some ⟨ub,0,none⟩) n uc)) ∧ (W.cell? ⟨ub,b * 4,none⟩ = some (.int .i64 P.w) ∧ W.cell? ⟨ub,b * 4 + 1,none⟩ = some (.int .i64 P.st) ∧ W.cell? ⟨ub,b * 4 + 2,none⟩ = some (.int .i64 P.sh) ∧ W.cell? ⟨ub,b * 4 + 3,none⟩ = some (.int .i64 P.f)) ∧
     (W.cell? ⟨ub,s0 * 4,none⟩ = some (.int .i64 Q.w) ∧ W.cell? ⟨ub,s0 * 4 + 1,none⟩ = some (.int .i64 Q.st) ∧ W.cell? ⟨ub,s0 * 4 + 2,none⟩ = some (.int .i64 Q.sh) ∧ W.cell? ⟨ub,s0 * 4 + 3,none⟩ = some (.int .i64 Q.f))) := boxed (fun W hb =>
    ⟨hold hb k3,⟨hold hb d0,hold hb d1,hold hb d2,hold hb d3⟩,hold hb f0,hold hb f1,hold hb f2,hold hb f3⟩)
   have HD0:Box (Below w.heap.size w w0.drew) := boxed HB0.out.drew
   have g5:s0 < n := by omega
   have g6:(s0:Int) < (n:Int) := by omega
   have g7:(b:Int) < (n:Int) := by omega
   clear k0 k1 k2 k3 k4 d0 d1 d2 d3 f0 f1 f2 f3 c0 c1 c2 c3 c4
   go_enter Tryz.func159,Tryz.ntmps159
   go_wp2_with (first | (go_at_call 74;refine hst.mono ?_;rintro e w' ⟨rfl,hw'⟩;subst w') | (go_at_call 119;refine hhas.mono ?_;rintro e w' ⟨rfl,hw'⟩;subst w'))
   go_region_held3 (fun W => (W.cell? ⟨pb,3,none⟩ = some (.slice (some ⟨ub,0,none⟩) n uc)) ∧ (W.cell? ⟨ub,b * 4,none⟩ = some (.int .i64 P.w) ∧ W.cell? ⟨ub,b * 4 + 1,none⟩ = some (.int .i64 P.st) ∧ W.cell? ⟨ub,b * 4 + 2,none⟩ = some (.int .i64 P.sh) ∧ W.cell? ⟨ub,b * 4 + 3,none⟩ = some (.int .i64 P.f)) ∧
     (W.cell? ⟨ub,s0 * 4,none⟩ = some (.int .i64 Q.w) ∧ W.cell? ⟨ub,s0 * 4 + 1,none⟩ = some (.int .i64 Q.st) ∧ W.cell? ⟨ub,s0 * 4 + 2,none⟩ = some (.int .i64 Q.sh) ∧ W.cell? ⟨ub,s0 * 4 + 3,none⟩ = some (.int .i64 Q.f)))
    (first | with_reducible exact HX.out _ HD0.out | with_reducible exact HX.out _ HB5.out | with_reducible exact HX.out _ HF.out)
    (first | (go_at_call 193;refine (hle _).mono ?_;rintro e w1 ⟨rfl,hb⟩;have hb1 := below_step (Below.refl w0.heap.size w0).drew (Nat.le_refl _) hb;have HB5 := boxed (HB0.out.trans (hb1.mono (by omega)));obtain ⟨⟨⟨x0,x1,x2,x3⟩,y0,y1,y2,y3⟩,HQ,HF,-⟩ := HN.out _ hb1 (.int .i64 R.w) (.int .i64 R.st) (.int .i64 R.sh) (.int .i64 R.f);simp only [put4] at HQ HF;replace HQ := boxed HQ;replace HF := boxed HF;clear hb hb1 hle))
   go_wp2_with fail
   refine bodyPost_ret (v := .agg #[.int .i64 R.w,.int .i64 R.st,.int .i64 R.sh,.int .i64 R.f]) (by have q := HQ.out;simp [results,Tryz.results159,go_sem,q]) rfl ⟨rfl,HF.out⟩
  ·have hU:upt I n a (b:Int) = Sm.zero := by unfold upt;rw [if_neg (by omega)]
   rw [hU]
   generalize sta I n a = s0 at *
   have t1:decide ((b:Int) ≤ (s0:Int)) = true := decide_eq_true (by omega)
   have t1':decide (b ≤ s0) = true := decide_eq_true (by omega)
   clear h4 hU
   unfold Sm.val Sm.zero
   obtain ⟨⟨⟨x0,x1,x2,x3⟩,y0,y1,y2,y3⟩,HQ,HF,-⟩ := HN.out _ (Below.refl _ _) (.int .i64 0) (.int .i64 0) (.int .i64 0) (.int .i64 0)
   replace HQ := boxed HQ
   replace HF := boxed HF
   go_enter Tryz.func159,Tryz.ntmps159
   go_wp2_with (first | (go_at_call 74;refine hst.mono ?_;rintro e w' ⟨rfl,hw'⟩;subst w') | (go_at_call 119;refine hhas.mono ?_;rintro e w' ⟨rfl,hw'⟩;subst w'))
   refine bodyPost_ret (v := .agg #[.int .i64 0,.int .i64 0,.int .i64 0,.int .i64 0]) (by have q := HQ.out;simp only [put4] at q;simp [results,Tryz.results159,go_sem,q]) rfl ⟨rfl,HF.out⟩
 ·have e1:(decide (0 ≤ b) && decide (b < (n:Int))) = false := by simp;omega
  rw [e1] at hhas
  have hU:upt I n a b = Sm.zero := by unfold upt;rw [if_neg (by omega)]
  rw [hU]
  clear h4 hU e1
  unfold Sm.val Sm.zero
  obtain ⟨⟨⟨x0,x1,x2,x3⟩,y0,y1,y2,y3⟩,HQ,HF,-⟩ := HN.out _ (Below.refl _ _) (.int .i64 0) (.int .i64 0) (.int .i64 0) (.int .i64 0)
  replace HQ := boxed HQ
  replace HF := boxed HF
  generalize sta I n a = s0 at *
  go_enter Tryz.func159,Tryz.ntmps159
  go_wp2_with (first | (go_at_call 74;refine hst.mono ?_;rintro e w' ⟨rfl,hw'⟩;subst w') | (go_at_call 119;refine hhas.mono ?_;rintro e w' ⟨rfl,hw'⟩;subst w'))
  refine bodyPost_ret (v := .agg #[.int .i64 0,.int .i64 0,.int .i64 0,.int .i64 0]) (by have q := HQ.out;simp only [put4] at q;simp [results,Tryz.results159,go_sem,q]) rfl ⟨rfl,HF.out⟩
theorem bounds_any (h:ParaAt S w pb n I) (hn:n ≤ 262144) (hok:∀ i,i < n → okI I i = true) (a b:Int):Calls Tryz.prog 214 #[.pointer (some ⟨pb,0,none⟩),.int .i64 a,.int .i64 b] w fun e w' =>
  e = .returned (.tuple #[.int .i64 ((upt I n a b).w - (upt I n a b).sh),.int .i64 ((upt I n a b).w + 5 * (upt I n a b).st + wst I n),.bool (decide (0 < (upt I n a b).f))]) ∧ Below w.heap.size w w' := by
 have hu := upTo_any h hn hok a b
 have hle := upt_le I n hn hok a b
 have hw := (wst_le I n hok n (Nat.le_refl _)).1
 obtain ⟨lo,lc,eo,ec,so,sc,uo,uc,hs,⟨c0,c1,c2,c3,c4⟩,h1,h2,h3,h4⟩ := h
 clear h1 h2 h3 h4
 unfold Sm.val at hu
 generalize upt I n a b = U at *
 generalize wst I n = M at *
 go_enter Tryz.func214,Tryz.ntmps214
 go_wp2_with fail
 refine hu.mono ?_
 rintro e w1 ⟨rfl,hb⟩
 have d4 := hold hb c4
 have q1:pb < w1.heap.size := World.block_lt_of_cell? w1 _ d4
 have q2:pb ≠ w1.heap.size := by omega
 have HB := boxed hb
 clear hb hu
 go_wp2_with fail
 go_quiet (fail)
 go_wp2_with fail
 go_ret3
 exact ⟨rfl,(HB.out.alloc HB.out.size _).trans (bel_drewN _ _ _)⟩
theorem line_any (h:ParaAt S w pb n I) (hn:n ≤ 262144) (hok:∀ i,i < n → okI I i = true) (a b:Int):Calls Tryz.prog 113 #[.pointer (some ⟨pb,0,none⟩),.int .i64 a,.int .i64 b] w fun e w' => e = .returned (lin I n a b).val ∧ Below w.heap.size w w' := by
 obtain ⟨w0,hw0,hb0,hz0,HN⟩ := res4 w _ rfl
 replace HN := boxed HN
 have hu := upTo_any (h.below hb0) hn hok a b
 have hle := upt_le I n hn hok a b
 have hit := boxed (fun W (hb:Below w.heap.size w W) => item_any (h.below hb) hn b)
 have had := fun W => added_any (itm I n b) W
 have hil:0 ≤ addd (itm I n b) ∧ addd (itm I n b) ≤ 68719476736 := by
  unfold itm addd
  split
  ·rename_i c
   have := okI_ms I b.toNat (hok _ (by omega))
   split <;> omega
  ·simp [Itm.zero]
 unfold lin Sm.val
 simp only
 unfold Sm.val at hu
 unfold Itm.val at had hit
 generalize upt I n a b = U at *
 generalize addd (itm I n b) = D at *
 generalize itm I n b = x at *
 have HB0 := boxed hb0
 clear hb0
 go_enter Tryz.func113,Tryz.ntmps113
 go_wp2_with fail
 refine hu.mono ?_
 rintro e w1 ⟨rfl,hb1⟩
 have HB1 := boxed (below_step HB0.out (Nat.le_refl _) hb1)
 have HE1 := boxed hb1
 clear hb1 hu
 obtain ⟨wS,hwS⟩:∃ wS,w1.alloc (.cells #[.int .i64 U.w,.int .i64 U.st,.int .i64 U.sh,.int .i64 U.f] 170) = wS := ⟨_,rfl⟩
 have hbS:Below w1.heap.size w1 wS := by rw [← hwS];exact (Below.refl _ _).alloc (Nat.le_refl _) _
 have hzS:wS.heap.size = w1.heap.size + 1 := by rw [← hwS];simp
 have heS:wS.heap[w1.heap.size]? = some (.cells #[.int .i64 U.w,.int .i64 U.st,.int .i64 U.sh,.int .i64 U.f] 170 (0,0)) := by rw [← hwS];exact heap_alloc_new w1 _
 obtain ⟨SB,hSB⟩:∃ SB,w1.heap.size = SB := ⟨_,rfl⟩
 rw [hSB] at heS hzS
 have hzSB:w0.heap.size ≤ SB := by rw [← hSB];exact HE1.out.size
 have HK:Box (∀ W,Below wS.heap.size wS W → W.heap[SB]? = some (.cells #[.int .i64 U.w,.int .i64 U.st,.int .i64 U.sh,.int .i64 U.f] 170 (0,0)) ∧ Below w.heap.size w W ∧ Below w0.heap.size w0 W) := boxed (fun W hb =>
  ⟨(hb.block SB (by omega)).trans heS,below_step (below_step HB1.out (Nat.le_refl _) hbS) (Nat.le_refl _) hb,below_step (below_step HE1.out (Nat.le_refl _) hbS) (Nat.le_refl _) hb⟩)
 have HD:Box (Below wS.heap.size wS wS.drew) := boxed (Below.refl _ _).drew
 have HDw:Box (Below w.heap.size w wS.drew) := boxed ((HK.out _ (Below.refl _ _)).2.1.drew)
 obtain ⟨⟨a0,a1,a2,a3⟩,y0,y1,y2,y3⟩ := cells4 (HK.out _ HD.out).1
 have hSB2 := boxed hSB
 have hwS2 := boxed hwS
 clear hbS heS hw0 h
 go_wp2_with fail
 go_region_with (first
  | (go_at_call 73;refine (hit.out _ HDw.out).mono ?_;rintro e w2 ⟨rfl,hb2⟩;have HK2 := boxed (below_step HD.out (Nat.le_refl _) hb2);obtain ⟨⟨b0,b1,b2,b3⟩,z0,z1,z2,z3⟩ := cells4 (HK.out _ HK2.out).1;clear hb2)
  | (go_at_call 107;refine (had _).mono ?_;rintro e w3 ⟨rfl,hb3⟩;have HK3 := boxed (below_step HK2.out (Nat.le_refl _) hb3);obtain ⟨⟨d0,d1,d2,d3⟩,x0,x1,x2,x3⟩ := cells4 (HK.out _ HK3.out).1;clear hb3))
 all_goals
  have ew:IntKind.i64.wrap (U.w + D) = U.w + D := by rw [IntKind.wrap_i64];omega
  rw [ew]
  have e3 := (HK.out _ HK3.out).1
  have F1:(w3.setCell ⟨SB,0,none⟩ (.int .i64 (U.w + D))).heap[SB]? = some (.cells #[.int .i64 (U.w + D),.int .i64 U.st,.int .i64 U.sh,.int .i64 U.f] 170 (0,0)) := by simp [World.setCell,Array.getElem?_modify,e3]
  have F2:Below w0.heap.size w0 (w3.setCell ⟨SB,0,none⟩ (.int .i64 (U.w + D))) := (HK.out _ HK3.out).2.2.setCell (by simp only;omega) _
  obtain ⟨⟨⟨p0,p1,p2,p3⟩,r0,r1,r2,r3⟩,HQ,HF,-⟩ := HN.out _ F2 (.int .i64 (U.w + D)) (.int .i64 U.st) (.int .i64 U.sh) (.int .i64 U.f)
  obtain ⟨⟨s0,s1,s2,s3⟩,-⟩ := cells4 F1
  simp only [put4] at HQ HF
  clear a0 a1 a2 a3 y0 y1 y2 y3 b0 b1 b2 b3 z0 z1 z2 z3 d0 d1 d2 d3 x0 x1 x2 x3 e3 F1 F2 hit had ew HK2 HK3 hwS
  generalize w3.setCell ⟨SB,0,none⟩ (.int .i64 (U.w + D)) = w4 at *
  replace HQ := boxed HQ
  replace HF := boxed HF
  have hne:SB ≠ w.heap.size := by omega
  have hne2:w.heap.size ≠ SB := by omega
  go_wp2_with fail
  refine bodyPost_ret (v := .agg #[.int .i64 (U.w + D),.int .i64 U.st,.int .i64 U.sh,.int .i64 U.f]) (by have q := HQ.out;simp [results,Tryz.results113,go_sem,q]) rfl ⟨rfl,HF.out⟩
theorem lin_ok (I:Nat → Itm) (n:Nat) (hn:n ≤ 262144) (hok:∀ i,i < n → okI I i = true) (a b width:Int) (hw:-1099511627776 ≤ width ∧ width ≤ 1099511627776):SmOk (lin I n a b) width ∧ 0 ≤ (lin I n a b).sh := by
 have h1 := upt_le I n hn hok a b
 have h2:0 ≤ addd (itm I n b) ∧ addd (itm I n b) ≤ 68719476736 := by
  unfold itm addd
  split
  ·rename_i c
   have := okI_ms I b.toNat (hok _ (by omega))
   split <;> omega
  ·simp [Itm.zero]
 unfold SmOk lin
 simp only
 omega
theorem pfit_any (h:ParaAt S w pb n I) (hn:n ≤ 262144) (hok:∀ i,i < n → okI I i = true) (a b width:Int) (hw:-1099511627776 ≤ width ∧ width ≤ 1099511627776):Calls Tryz.prog 69 #[.pointer (some ⟨pb,0,none⟩),.int .i64 a,.int .i64 b,.int .i64 width] w fun e w' => e = .returned (setF (lin I n a b) width).val ∧ Below w.heap.size w w' := by
 obtain ⟨w0,hw0,hb0,hz0,HN⟩ := res5 w _ rfl
 replace HN := boxed HN
 have hl := line_any (h.below hb0) hn hok a b
 have hse := fun W => set_any (lin I n a b) width W (lin_ok I n hn hok a b width hw).1
 generalize lin I n a b = L at *
 obtain ⟨f0,f1,f2,f3,f4,hF⟩:∃ a b c d e,setF L width = ⟨a,b,c,d,e⟩ := ⟨_,_,_,_,_,rfl⟩
 rw [hF] at hse ⊢
 unfold Sm.val at hl hse
 unfold Ft.val at hse ⊢
 simp only at hse ⊢
 clear hF h hb0
 go_enter Tryz.func69,Tryz.ntmps69
 go_wp2_with fail
 refine hl.mono ?_
 rintro e w1 ⟨rfl,hb1⟩
 have HB1 := boxed hb1
 clear hb1 hl
 go_wp2_with fail
 refine (hse _).mono ?_
 rintro e w2 ⟨rfl,hb2⟩
 have HB2 := boxed (below_step HB1.out (Nat.le_refl _) hb2)
 clear hb2 hse
 obtain ⟨⟨⟨d0,d1,d2,d3,d4⟩,g0,g1,g2,g3,g4⟩,HQ,HF,-⟩ := HN.out _ HB2.out (.int .i64 f0) (.int .i64 f1) (.int .i64 f2) (.int .i64 f3) (.bool f4)
 replace HQ := boxed HQ
 replace HF := boxed HF
 go_wp2_with fail
 refine bodyPost_ret (v := .agg #[.int .i64 f0,.int .i64 f1,.int .i64 f2,.int .i64 f3,.bool f4]) (by have q := HQ.out;simp only [put5] at q;simp [results,Tryz.results69,go_sem,q]) rfl ⟨rfl,HF.out⟩
end
end Go.Proofs.YtcjcdpfjnomehaaGreat
namespace Go.Proofs.YtcjcdpfjnomehaaGreat
set_option maxRecDepth 100000
set_option maxHeartbeats 40000000
set_option linter.unusedSimpArgs false
set_option linter.unusedVariables false
theorem upt_mono (I:Nat → Itm) (n:Nat) (hok:∀ i,i < n → okI I i = true) (a:Int) (k:Nat) (hk:k + 1 < n) :
  (upt I n a (k:Int)).w - (upt I n a (k:Int)).sh ≤ (upt I n a ((k + 1:Nat):Int)).w - (upt I n a ((k + 1:Nat):Int)).sh ∧
  (upt I n a (k:Int)).w + 5 * (upt I n a (k:Int)).st ≤ (upt I n a ((k + 1:Nat):Int)).w + 5 * (upt I n a ((k + 1:Nat):Int)).st ∧
  (upt I n a (k:Int)).f ≤ (upt I n a ((k + 1:Nat):Int)).f := by
 have hs := sta_le I n a
 unfold upt
 rw [Int.toNat_natCast,Int.toNat_natCast]
 by_cases c1:sta I n a < k
 ·rw [if_pos (by omega),if_pos (by omega)]
  have h1 := pre_mono I n hok k (k + 1) (by omega) (by omega)
  simp only [Sm.sub]
  omega
 ·rw [if_neg (by omega)]
  by_cases c2:sta I n a < k + 1
  ·rw [if_pos (by omega)]
   have h1 := pre_mono I n hok (sta I n a) (k + 1) (by omega) (by omega)
   simp only [Sm.sub,Sm.zero]
   omega
  ·rw [if_neg (by omega)]
   simp [Sm.zero]
theorem itm_add (I:Nat → Itm) (n:Nat) (hok:∀ i,i < n → okI I i = true) (b:Nat) (hb:b < n):0 ≤ addd (itm I n (b:Int)) ∧ addd (itm I n (b:Int)) ≤ wst I n := by
 have e:itm I n (b:Int) = I b := by unfold itm;rw [if_pos (by omega),Int.toNat_natCast]
 rw [e]
 have h1 := okI_ms I b (hok b hb)
 have h2 := (wst_le I n hok n (Nat.le_refl _)).2 b hb
 refine ⟨?_,h2⟩
 unfold addd
 split <;> omega
theorem fit_over (I:Nat → Itm) (n:Nat) (hn:n ≤ 262144) (hok:∀ i,i < n → okI I i = true) (a:Int) (b:Nat) (hb:b < n) (width:Int)
  (h:width < (upt I n a (b:Int)).w - (upt I n a (b:Int)).sh):(setF (lin I n a (b:Int)) width).over = true := by
 have h1 := upt_le I n hn hok a (b:Int)
 have h2 := itm_add I n hok b hb
 unfold setF lin
 simp only
 rw [if_neg (by omega),if_neg (by omega)]
 unfold shF
 rw [if_pos (by omega)]
 rfl
open Go.RowKit
theorem reflegal8_any (S:Nat → Prop) (ao:Option Addr) (n c:Nat) (I:Nat → Itm) (w:World) (h:ItsAt S w ao n I) (hm:n ≤ 262144) :
  Calls Tryz.prog 16 #[.slice ao n c] w fun e w' => ∃ v',e = .returned v' ∧ w'.ownsRow w.heap.size 3 1 v' (lgs I n n).length (ncs (lgs I n n)) ∧ Below w.heap.size w w' := by
 obtain ⟨i0,hi,hz0,hz1,hz2⟩ := info_parts info_int8
 have HH := boxed h
 clear h
 obtain ⟨B,hB⟩:∃ B,w.heap.size = B := ⟨_,rfl⟩
 rw [hB]
 go_enter Tryz.func16,Tryz.ntmps16
 go_wp2_with fail
 go_loopw [3,4] (fun v i wr => ∃ k:Nat,k ≤ n ∧ i = .int .i64 (k:Int) ∧ Box (wr.ownsRow B 3 1 v (lgs I n k).length (ncs (lgs I n k))) ∧ Box (Below B w wr)) (fun _ i _ => n - (intOf i).toNat)
 case atStart => exact ⟨0,Nat.zero_le _,rfl,boxed (World.ownsRow_nil _ _ _ _),boxed (Below.refl _ _)⟩
 case round =>
  obtain ⟨k,hk,rfl,HO,HB⟩ := hrel
  by_cases hlt:k < n
  ·have hbs:B ≤ wr.heap.size := by have := HB.out.size;omega
   have hl := reflegal_any S ao n c I wr (HH.out.below (by rw [hB];exact HB.out)) (by unfold maxLen;omega) k
   have t3:decide ((k:Int) < (n:Int)) = true := decide_eq_true (by omega)
   have hlen := lgs_len I n k
   have HE := boxed (show lgs I n (k + 1) = if legl I n k = true then lgs I n k ++ [k] else lgs I n k from rfl)
   cases hg:legl I n k
   ·rw [hg] at hl HE
    have HE2:Box (lgs I n (k + 1) = lgs I n k) := boxed (by rw [HE.out];rfl)
    clear hg HE
    generalize lgs I n k = L at *
    go_wp2_with fail
    refine hl.mono ?_
    rintro e w2 ⟨rfl,hb2⟩
    have HB2 := boxed (HB.out.trans (hb2.mono hbs))
    have HO2 := boxed (owns_below HO.out hb2)
    clear hb2 hl
    go_wp2_with fail
    go_roundw
    case rel => exact ⟨k + 1,by omega,by go_num,by rw [HE2.out];exact HO2,HB2⟩
    case measure => simp [intOf];omega
   ·rw [hg] at hl HE
    have HE2:Box (lgs I n (k + 1) = lgs I n k ++ [k]) := boxed (by rw [HE.out];rfl)
    clear hg HE
    generalize lgs I n k = L at *
    go_wp2_with fail
    refine hl.mono ?_
    rintro e w2 ⟨rfl,hb2⟩
    have HB2 := boxed (HB.out.trans (hb2.mono hbs))
    have hown := owns_below HO.out hb2
    have hbs2:B ≤ w2.heap.size := Nat.le_trans hbs hb2.size
    clear hb2 hl HO HB
    generalize hM:L.length = M at *
    go_wp2_with (first | (at_builtin;refine wpList_append_own _ rfl _ _ 33 rfl B 3 i0 _ 1 8 Tryz.underlying33 hi hz0 hz1 hz2 rfl (by decide) _ _ _ rfl (hown.alloc _) ⟨w2.heap.size,0,none⟩ 1 1 [.int .i64 (k:Nat)] rfl rfl ?c1 ?c2 ?c3 ?c4 ?c5 ?_))
    case c1 =>
     intro j u hj
     match j,hj with
     | 0,hj => simp at hj;subst hj;simp [Addr.add]
    case c2 => intro u hu;simp at hu;subst hu;rfl
    case c3 => unfold maxLen;omega
    case c4 => omega
    case c5 => simp;omega
    intro v' w6 hown6 hgrow6 _
    have HO6 := boxed hown6
    have HG6 := boxed (HB2.out.trans (grown_any hown hbs2 hgrow6))
    clear hown6 hgrow6 hown
    go_wp2_with fail
    go_roundw
    case rel => exact ⟨k + 1,by omega,by go_num,boxed (by rw [HE2.out,ncs_app,List.length_append,hM];exact HO6.out),HG6⟩
    case measure => simp [intOf];omega
  ·have e:k = n := by omega
   subst e
   go_wp2
   go_ret
   exact ⟨_,rfl,HO.out,HB.out⟩
theorem refstart_any (S : Nat → Prop) (ao : Option Addr) (n c : Nat) (I : Nat → Itm) (w : World) (h : ItsAt S w ao n I) (hn : n ≤ 262144) (a : Int) :
    Calls Tryz.prog 75 #[.slice ao n c, .int .i64 a] w fun e w' => e = .returned (.int .i64 (sta I n a : Nat)) ∧ Below w.heap.size w w' := by
  by_cases a0 : a < 0
  · have e : sta I n a = 0 := by unfold sta; rw [if_pos a0]
    rw [e]
    have t1 : decide (a < 0) = true := decide_eq_true a0
    clear h
    go_enter Tryz.func75, Tryz.ntmps75
    go_wp2_with fail
    go_ret
    exact ⟨rfl, Below.refl _ _⟩
  have t1 : decide (a < 0) = false := decide_eq_false a0
  by_cases a1 : (n : Int) ≤ a
  · have e : sta I n a = n := by unfold sta; rw [if_neg a0, if_neg (by omega)]
    rw [e]
    have t2 : decide (a < (n : Int)) = false := decide_eq_false (by omega)
    clear h
    go_enter Tryz.func75, Tryz.ntmps75
    go_wp2_with fail
    go_rounds 1
    all_goals
      go_ret
      exact ⟨rfl, Below.refl _ _⟩
  obtain ⟨s, rfl⟩ : ∃ j : Nat, a = (j : Int) := ⟨a.toNat, by omega⟩
  have hs : s < n := by omega
  have e : sta I n (s : Int) = nxt I n s := by unfold sta; rw [if_neg a0, if_pos (by omega), Int.toNat_natCast]
  rw [e]
  have HH := boxed h
  clear h e
  go_enter Tryz.func75, Tryz.ntmps75
  go_wp2_with fail
  go_loopw [5] (fun kv wr => ∃ k : Nat, s ≤ k ∧ k ≤ n ∧ kv = .int .i64 (k : Int) ∧ Box (k = s ∨ nxt I n s = nb I (n - k) k) ∧ Box (Below w.heap.size w wr)) (fun kv _ => n - (intOf kv).toNat)
  case atStart => exact ⟨s, Nat.le_refl _, by omega, rfl, boxed (.inl rfl), boxed (Below.refl _ _)⟩
  case round =>
    obtain ⟨k, hk1, hk, rfl, HK, HB⟩ := hrel
    by_cases hlt : k < n
    · obtain ⟨b, off, e, -, c0, c1, c2, c3, c4, c5, c6, c7, c8⟩ := (HH.out.below HB.out) k hlt
      subst e
      have t3 : decide ((k : Int) < (n : Int)) = true := decide_eq_true (by omega)
      have t3' : decide (k < n) = true := decide_eq_true hlt
      have HNB := boxed (nb_step I n k hlt)
      have HKL := boxed (And.intro hk1 (And.intro hk hlt))
      by_cases hks : k = s
      · have t4 : decide ((s : Int) < (k : Int)) = false := decide_eq_false (by omega)
        have t4' : decide (s < k) = false := decide_eq_false (by omega)
        have HN1 : Box (k + 1 = s ∨ nxt I n s = nb I (n - (k + 1)) (k + 1)) := boxed (.inr (by rw [hks]; rfl))
        clear hks c0 c1 c2 c3 c4 c5 c6 c7 c8
        go_wp2_with fail
        go_roundw
        case rel => exact ⟨k + 1, by omega, by omega, by go_num, HN1, HB⟩
        case measure => simp [intOf]; omega
      · have t4 : decide ((s : Int) < (k : Int)) = true := decide_eq_true (by omega)
        have t4' : decide (s < k) = true := decide_eq_true (by omega)
        have HN0 : Box (nxt I n s = nb I (n - k) k) := boxed (by rcases HK.out with h | h; exact absurd h hks; exact h)
        have hfo := fun w => refforced_any (I k) w
        have HBg : Box (beg (I k) = (((I k).k == 1) || forc (I k) || (((I k).k == 2) && (I k).fill))) := boxed rfl
        unfold Itm.val at hfo
        clear hks HK
        generalize forc (I k) = f at *
        generalize beg (I k) = V at *
        generalize I k = x at *
        obtain ⟨x1, x2, x3, x4, x5, x6, x7, x8, x9⟩ := x
        simp only at *
        cases g1 : (x1 == 1)
        all_goals cases f
        all_goals cases g2 : (x1 == 2)
        all_goals cases x5
        all_goals
          rw [g1, g2] at HBg
          simp only [Bool.true_or, Bool.false_or, Bool.or_true, Bool.or_false, Bool.true_and, Bool.false_and, Bool.and_true, Bool.and_false] at HBg
          first
          | (have HN2 : Box (nxt I n s = k) := boxed (by rw [HN0.out, HNB.out, HBg.out]; rfl)
             go_wp2_with (go_at_call 37; refine (hfo _).mono ?_; rintro e w5 ⟨rfl, hb5⟩; have k0 := hold hb5 c0; have k4 := hold hb5 c4; have HB5 := boxed (below_step HB.out (Nat.le_refl _) hb5); clear hb5)
             go_ret
             exact ⟨ret_int (by rw [HN2.out]), by first | exact HB5.out | exact HB.out⟩)
          | (have HN2 : Box (k + 1 = s ∨ nxt I n s = nb I (n - (k + 1)) (k + 1)) := boxed (.inr (by rw [HN0.out, HNB.out, HBg.out]; rfl))
             go_wp2_with (go_at_call 37; refine (hfo _).mono ?_; rintro e w5 ⟨rfl, hb5⟩; have k0 := hold hb5 c0; have k4 := hold hb5 c4; have HB5 := boxed (below_step HB.out (Nat.le_refl _) hb5); clear hb5)
             go_roundw
             case rel => exact ⟨k + 1, by have := HKL.out; omega, by have := HKL.out; omega, by go_num, HN2, by first | exact HB5 | exact HB⟩
             case measure => have := HKL.out; simp [intOf]; omega)
    · have e : k = n := by omega
      subst e
      have HN2 : Box (nxt I k s = k) := boxed (by
        rcases HK.out with h | h
        · omega
        · rw [h, Nat.sub_self]; rfl)
      go_wp2_with fail
      go_ret
      exact ⟨ret_int (by rw [HN2.out]), HB.out⟩
theorem below_grown {w w':World} (h:Below w.heap.size w w') (row:Option Nat):w.grownBy w' row := ⟨h.os,h.tape,h.output,h.size,fun k hk _ => h.block k hk⟩
def seg (I:Nat → Itm) (s k:Nat):Sm := (pre I k).sub (pre I s)
theorem seg_self (I:Nat → Itm) (s:Nat):seg I s s = Sm.zero := by simp [seg,Sm.sub,Sm.zero]
theorem seg_next (I:Nat → Itm) (s k:Nat):seg I s (k + 1) = acc (seg I s k) (I k) := by
 simp only [seg,Sm.sub,pre,acc]
 congr 1
 ·split <;> omega
 ·omega
 ·omega
 ·split <;> omega
theorem upd {w wr:World} {G i:Nat} {o:Obj} {arr:Array Value} {t:TypeId} (v:Value) (e1:wr.heap[G]? = some o) (e2:wr.heap[G + 1]? = some (.cells arr t (0,0))) (hb:Below G w wr) :
  (wr.setCell ⟨G + 1,i,none⟩ v).drew.heap[G]? = some o ∧ (wr.setCell ⟨G + 1,i,none⟩ v).drew.heap[G + 1]? = some (.cells (arr.setIfInBounds i v) t (0,0)) ∧ Below G w (wr.setCell ⟨G + 1,i,none⟩ v).drew := by
 refine ⟨?_,arr_set (W := wr) _ e2,(hb.setCell (by simp) _).drew⟩
 show (wr.setCell ⟨G + 1,i,none⟩ v).heap[G]? = some o
 rw [heap_setCell_other _ ⟨G + 1,i,none⟩ G _ (by simp)]
 exact e1
theorem updp {w wr:World} {G i:Nat} {o:Obj} {arr:Array Value} {t:TypeId} (v:Value) (e1:wr.heap[G]? = some o) (e2:wr.heap[G + 1]? = some (.cells arr t (0,0))) (hb:Below G w wr) :
  (wr.setCell ⟨G + 1,i,none⟩ v).heap[G]? = some o ∧ (wr.setCell ⟨G + 1,i,none⟩ v).heap[G + 1]? = some (.cells (arr.setIfInBounds i v) t (0,0)) ∧ Below G w (wr.setCell ⟨G + 1,i,none⟩ v) ∧ (wr.setCell ⟨G + 1,i,none⟩ v).heap.size = wr.heap.size := by
 refine ⟨?_,arr_set _ e2,hb.setCell (by simp) _,by simp⟩
 rw [heap_setCell_other _ ⟨G + 1,i,none⟩ G _ (by simp)]
 exact e1
theorem seg_le (I:Nat → Itm) (n:Nat) (hok:∀ i,i < n → okI I i = true) (s k:Nat) (h1:s ≤ k) (h2:k ≤ n) (hn:n ≤ 262144):(0 ≤ (seg I s k).w ∧ (seg I s k).w ≤ 18014398509481984) ∧ (0 ≤ (seg I s k).st ∧ (seg I s k).st ≤ 18014398509481984) ∧ (0 ≤ (seg I s k).sh ∧ (seg I s k).sh ≤ 18014398509481984) ∧ (0 ≤ (seg I s k).f ∧ (seg I s k).f ≤ 262144) := by
 have h3 := pre_le I n hok k h2
 have h4 := pre_le I n hok s (by omega)
 have h5 := pre_mono I n hok s k h1 h2
 simp only [seg,Sm.sub]
 omega
theorem refline_any (S:Nat → Prop) (ao:Option Addr) (n c:Nat) (I:Nat → Itm) (w:World) (h:ItsAt S w ao n I) (hn:n ≤ 262144) (hok:∀ i,i < n → okI I i = true) (a b:Int) :
  Calls Tryz.prog 84 #[.slice ao n c,.int .i64 a,.int .i64 b] w fun e w' => e = .returned (.tuple #[(upt I n a b).val,.bool (hasI n b)]) ∧ Below w.heap.size w w' := by
 have hst := fun W (hb:Below w.heap.size w W) => refstart_any S ao n c I W (h.below hb) hn a
 by_cases g:0 ≤ b ∧ b < (n:Int)
 ·have e1:hasI n b = true := by unfold hasI;simp [g]
  obtain ⟨b,rfl⟩:∃ j:Nat,b = (j:Int) := ⟨b.toNat,by omega⟩
  rw [e1]
  have hbn:b < n := by omega
  have hsl := sta_le I n a
  have HU:Box (upt I n a (b:Int) = if sta I n a < b then seg I (sta I n a) b else Sm.zero) := boxed (by
   unfold upt seg
   rw [Int.toNat_natCast]
   by_cases q:sta I n a < b
   ·rw [if_pos (by omega),if_pos q]
   ·rw [if_neg (by omega),if_neg q])
  generalize sta I n a = s at *
  generalize upt I n a (b:Int) = U at *
  have HH := boxed h
  replace hst := boxed hst
  clear h e1
  have t0:decide ((b:Int) < 0) = false := decide_eq_false (by omega)
  have t0':decide (n ≤ b) = false := decide_eq_false (by omega)
  obtain ⟨W0,hW0⟩:∃ W0,(w.alloc (.cells #[.int .i64 0,.int .i64 0,.int .i64 0,.int .i64 0] 76)).alloc (.cells #[.int .i64 0,.int .i64 0,.int .i64 0,.int .i64 0] 76) = W0 := ⟨_,rfl⟩
  have hE1:W0.heap[w.heap.size]? = some (.cells #[.int .i64 0,.int .i64 0,.int .i64 0,.int .i64 0] 76 (0,0)) := by
   rw [← hW0,Below.heap_alloc _ _ _ (by simp)];exact heap_alloc_new w _
  have hE2:W0.heap[w.heap.size + 1]? = some (.cells #[.int .i64 0,.int .i64 0,.int .i64 0,.int .i64 0] 76 (0,0)) := by
   have := heap_alloc_new (w.alloc (.cells #[.int .i64 0,.int .i64 0,.int .i64 0,.int .i64 0] 76)) (.cells #[.int .i64 0,.int .i64 0,.int .i64 0,.int .i64 0] 76)
   rw [World.size_alloc,hW0] at this
   exact this
  have hz0:W0.heap.size = w.heap.size + 2 := by rw [← hW0];simp
  have hb0:Below w.heap.size w W0 := by rw [← hW0];exact ((Below.refl _ _).alloc (Nat.le_refl _) _).alloc (by simp) _
  obtain ⟨G,hG⟩:∃ G,w.heap.size = G := ⟨_,rfl⟩
  rw [hG] at hE1 hE2 hz0
  have hG2 := boxed hG
  have HB0 := boxed hb0
  have HE1 := boxed hE1
  have HE2 := boxed hE2
  clear hb0 hE1 hE2
  go_enter Tryz.func84,Tryz.ntmps84
  go_wp2_with fail
  refine (hst.out _ HB0.out).mono ?_
  rintro e w1 ⟨rfl,hb1⟩
  have HB1 := boxed (below_step HB0.out (Nat.le_refl _) hb1)
  have HF1 := boxed ((hb1.block G (by omega)).trans HE1.out)
  have HF2 := boxed ((hb1.block (G + 1) (by omega)).trans HE2.out)
  have hz1:G + 2 ≤ w1.heap.size := by have := hb1.size;omega
  clear hb1 hst HB0 HE1 HE2 hW0
  go_wp2_with fail
  go_loopw [9] (fun kv wr => ∃ k:Nat,s ≤ k ∧ (k ≤ b ∨ k = s) ∧ kv = .int .i64 (k:Int) ∧ Box (wr.heap[G]? = some (.cells #[.int .i64 0,.int .i64 0,.int .i64 0,.int .i64 0] 76 (0,0)) ∧ wr.heap[G + 1]? = some (.cells #[.int .i64 (seg I s k).w,.int .i64 (seg I s k).st,.int .i64 (seg I s k).sh,.int .i64 (seg I s k).f] 76 (0,0))) ∧ Box (Below G w wr)) (fun kv _ => b - (intOf kv).toNat)
  case atStart => exact ⟨s,Nat.le_refl _,.inr rfl,rfl,boxed ⟨HF1.out,by rw [seg_self];exact HF2.out⟩,boxed (by rw [← hG2.out];exact HB1.out)⟩
  case round =>
   clear HF1 HF2 HB1 hz1
   obtain ⟨k,hk1,hk2,rfl,HE,HB⟩ := hrel
   by_cases hlt:k < b
   ·have hkn:k < n := by omega
    have hle := seg_le I n hok s k hk1 (by omega) hn
    have hms := okI_ms I k (hok k hkn)
    have HS := boxed (seg_next I s k)
    have t3:decide ((k:Int) < (b:Int)) = true := decide_eq_true (by omega)
    have t3':decide (k < b) = true := decide_eq_true hlt
    have hkn2:(k:Int) < (n:Int) := by omega
    obtain ⟨lb,off,e,-,c0,c1,c2,c3,c4,c5,c6,c7,c8⟩ := (HH.out.below (by rw [hG2.out];exact HB.out)) k hkn
    obtain ⟨lb',off',e',-,d0,-⟩ := HH.out k hkn
    have hbG:lb < G := by
     have := World.block_lt_of_cell? w _ d0
     rw [e] at e'
     injection e' with e'
     injection e' with e1 e2 e3
     subst e1
     have := hG2.out
     simp at *
     omega
    have HC:Box (∀ W,Below G w W → (W.cell? ⟨lb,off + k * 9,none⟩ = some (.int .i64 (I k).k) ∧ W.cell? ⟨lb,off + k * 9 + 1,none⟩ = some (.int .i64 (I k).w) ∧ W.cell? ⟨lb,off + k * 9 + 2,none⟩ = some (.int .i64 (I k).st) ∧ W.cell? ⟨lb,off + k * 9 + 3,none⟩ = some (.int .i64 (I k).sh) ∧ W.cell? ⟨lb,off + k * 9 + 4,none⟩ = some (.bool (I k).fill))) := boxed (fun W hW => by
     obtain ⟨l2,o2,e2,-,c0,c1,c2,c3,c4,-⟩ := (HH.out.below (w' := W) (by rw [hG2.out];exact hW)) k hkn
     rw [e] at e2
     injection e2 with e2
     injection e2 with q1 q2 q3
     subst q1;subst q2
     exact ⟨c0,c1,c2,c3,c4⟩)
    subst e
    have hne:lb ≠ G + 1 := by omega
    have hne2:G + 1 ≠ lb := by omega
    clear e' d0 c0 c1 c2 c3 c4 c5 c6 c7 c8
    obtain ⟨E1,E2⟩ := HE.out
    clear HE
    generalize hSeg:seg I s k = P at *
    generalize I k = x at *
    obtain ⟨c0,c1,c2,c3,c4⟩ := HC.out _ HB.out
    obtain ⟨⟨t0,t1,t2,t4⟩,z0,z1,z2,z3⟩ := cells4 E2
    cases hk3:(x.k == 3)
    ·have hk3':¬ x.k = 3 := by simpa using hk3
     have g1:(x.k != 3) = true := by simpa using hk3'
     clear hk3
     have HA:Box (acc P x = ⟨P.w + x.w,P.st + x.st,P.sh + x.sh,if x.fill = true then P.f + 1 else P.f⟩) := boxed (by unfold acc;rw [if_neg hk3'])
     replace E1 := boxed E1
     replace E2 := boxed E2
     clear hk3'
     go_wp2_with fail
     go_region
     obtain ⟨E1,E2,hb0⟩ := upd (i := 0) (.int .i64 (P.w + x.w)) E1.out E2.out HB.out
     replace E2:((wr.setCell ⟨G + 1,0,none⟩ (.int .i64 (P.w + x.w))).drew).heap[G + 1]? = some (.cells #[.int .i64 (P.w + x.w),.int .i64 (P.st),.int .i64 (P.sh),.int .i64 (P.f)] 76 (0,0)) := E2
     clear c0 c1 c2 c3 c4 t0 t1 t2 t4 z0 z1 z2 z3
     generalize (wr.setCell ⟨G + 1,0,none⟩ (.int .i64 (P.w + x.w))).drew = w8 at *
     obtain ⟨c0,c1,c2,c3,c4⟩ := HC.out _ hb0
     obtain ⟨⟨t0,t1,t2,t4⟩,z0,z1,z2,z3⟩ := cells4 E2
     replace E1 := boxed E1
     replace E2 := boxed E2
     replace hb0 := boxed hb0
     go_wp2_with fail
     go_region
     obtain ⟨E1,E2,hb1⟩ := upd (i := 1) (.int .i64 (P.st + x.st)) E1.out E2.out hb0.out
     replace E2:((w8.setCell ⟨G + 1,1,none⟩ (.int .i64 (P.st + x.st))).drew).heap[G + 1]? = some (.cells #[.int .i64 (P.w + x.w),.int .i64 (P.st + x.st),.int .i64 (P.sh),.int .i64 (P.f)] 76 (0,0)) := E2
     clear c0 c1 c2 c3 c4 t0 t1 t2 t4 z0 z1 z2 z3
     generalize (w8.setCell ⟨G + 1,1,none⟩ (.int .i64 (P.st + x.st))).drew = w9 at *
     obtain ⟨c0,c1,c2,c3,c4⟩ := HC.out _ hb1
     obtain ⟨⟨t0,t1,t2,t4⟩,z0,z1,z2,z3⟩ := cells4 E2
     replace E1 := boxed E1
     replace E2 := boxed E2
     replace hb1 := boxed hb1
     go_wp2_with fail
     go_region
     obtain ⟨E1,E2,hb2⟩ := upd (i := 2) (.int .i64 (P.sh + x.sh)) E1.out E2.out hb1.out
     replace E2:((w9.setCell ⟨G + 1,2,none⟩ (.int .i64 (P.sh + x.sh))).drew).heap[G + 1]? = some (.cells #[.int .i64 (P.w + x.w),.int .i64 (P.st + x.st),.int .i64 (P.sh + x.sh),.int .i64 (P.f)] 76 (0,0)) := E2
     clear c0 c1 c2 c3 c4 t0 t1 t2 t4 z0 z1 z2 z3
     generalize (w9.setCell ⟨G + 1,2,none⟩ (.int .i64 (P.sh + x.sh))).drew = w10 at *
     obtain ⟨c0,c1,c2,c3,c4⟩ := HC.out _ hb2
     obtain ⟨⟨t0,t1,t2,t4⟩,z0,z1,z2,z3⟩ := cells4 E2
     replace E1 := boxed E1
     replace E2 := boxed E2
     replace hb2 := boxed hb2
     cases hfi:x.fill
     ·rw [hfi] at c4 HA
      go_wp2_with fail
      go_roundw
      case rel => exact ⟨k + 1,by omega,by omega,by go_num,boxed ⟨E1.out,by rw [HS.out,HA.out];exact E2.out⟩,hb2⟩
      case measure => simp [intOf];omega
     ·rw [hfi] at c4 HA
      obtain ⟨K1,K2,K3,-⟩ := updp (i := 3) (.int .i64 (P.f + 1)) E1.out E2.out hb2.out
      replace K1 := boxed K1
      replace K2 := boxed K2
      replace K3 := boxed K3
      go_wp2_with fail
      go_roundw
      case rel => exact ⟨k + 1,by omega,by omega,by go_num,boxed ⟨K1.out,by rw [HS.out,HA.out];exact K2.out⟩,K3⟩
      case measure => simp [intOf];omega
    ·have hk3':x.k = 3 := by simpa using hk3
     have g1:(x.k != 3) = false := by simpa using hk3'
     obtain ⟨m1,m2,m3⟩ := hms.2.2.2.2 hk3'
     have HA:Box (acc P x = ⟨P.w,P.st,P.sh,P.f⟩) := boxed (by unfold acc;rw [if_pos hk3',m1,m2,m3];simp)
     rw [m3] at c4
     replace E1 := boxed E1
     replace E2 := boxed E2
     clear hk3' hk3
     go_wp2_with fail
     go_roundw
     case rel => exact ⟨k + 1,by omega,by omega,by go_num,boxed ⟨E1.out,by rw [HS.out,HA.out];exact E2.out⟩,HB⟩
     case measure => simp [intOf];omega
   ·obtain ⟨E1,E2⟩ := HE.out
    have hUk:U = seg I s k := by
     rw [HU.out]
     rcases hk2 with q | q
     ·by_cases q2:s < b
      ·rw [if_pos q2,show k = b by omega]
      ·rw [if_neg q2,show k = s by omega,seg_self]
     ·by_cases q2:s < b
      ·omega
      ·rw [if_neg q2,q,seg_self]
    replace hUk := boxed hUk
    generalize seg I s k = P at *
    have t3:decide ((k:Int) < (b:Int)) = false := decide_eq_false (by omega)
    have t3':decide (k < b) = false := decide_eq_false hlt
    obtain ⟨⟨r0,r1,r2,r3⟩,y0,y1,y2,y3⟩ := cells4 E1
    obtain ⟨⟨t0,t1,t2,t4⟩,z0,z1,z2,z3⟩ := cells4 E2
    have hK := (cells4 (put4_heap E1 (.int .i64 P.w) (.int .i64 P.st) (.int .i64 P.sh) (.int .i64 P.f))).1
    have hF := HB.out.trans (grown_below (put4_grown wr G (.int .i64 P.w) (.int .i64 P.st) (.int .i64 P.sh) (.int .i64 P.f)) (Nat.le_refl _) (by have := HB.out.size;have := hG2.out;omega))
    simp only [put4] at hK hF
    replace hK := boxed hK
    replace hF := boxed hF
    clear E1 E2
    go_wp2_with fail
    refine bodyPost_ret (v := .tuple #[.agg #[.int .i64 P.w,.int .i64 P.st,.int .i64 P.sh,.int .i64 P.f],.bool true]) (by have q := hK.out;simp [results,Tryz.results84,go_sem,q]) rfl ⟨by rw [hUk.out];rfl,by rw [hG2.out];exact hF.out⟩
 ·have e1:hasI n b = false := by unfold hasI;simp;omega
  have hU:upt I n a b = Sm.zero := by unfold upt;rw [if_neg (by omega)]
  rw [e1,hU]
  unfold Sm.val Sm.zero
  clear h hst
  by_cases g1:b < 0
  ·have t1:decide (b < 0) = true := decide_eq_true g1
   go_enter Tryz.func84,Tryz.ntmps84
   go_wp2_with fail
   refine bodyPost_ret (v := .tuple #[.agg #[.int .i64 0,.int .i64 0,.int .i64 0,.int .i64 0],.bool false]) (by simp [results,Tryz.results84,go_sem]) rfl ⟨rfl,by go_grown⟩
  ·have t1:decide (b < 0) = false := decide_eq_false g1
   have t2:decide ((n:Int) ≤ b) = true := decide_eq_true (by omega)
   go_enter Tryz.func84,Tryz.ntmps84
   go_wp2_with fail
   refine bodyPost_ret (v := .tuple #[.agg #[.int .i64 0,.int .i64 0,.int .i64 0,.int .i64 0],.bool false]) (by simp [results,Tryz.results84,go_sem]) rfl ⟨rfl,by go_grown⟩
end Go.Proofs.YtcjcdpfjnomehaaGreat
