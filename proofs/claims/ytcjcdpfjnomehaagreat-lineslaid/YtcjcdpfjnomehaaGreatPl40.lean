/- What the document's Whole and Fit answer. -/
import Derived.Test.YtcjcdpfjnomehaaGreatPl11
import Derived.Test.YtcjcdpfjnomehaaGreatPl39
namespace Go.Proofs.YtcjcdpfjnomehaaGreat
set_option maxRecDepth 100000
set_option maxHeartbeats 40000000
open Go.RowKit
set_option linter.unusedSimpArgs false
set_option linter.unusedVariables false
theorem res4r (w:World) (rb:Nat) (hrb:w.heap.size = rb):∃ w0,w.alloc (.cells #[.int .i64 0,.int .i64 0,.int .i64 0,.int .i64 0] 76) = w0 ∧ Below rb w w0 ∧ w0.heap.size = rb + 1 ∧ ∀ W,Below w0.heap.size w0 W → ∀ v0 v1 v2 v3:Value,
  ((W.cell? ⟨rb,0,none⟩ = some (.int .i64 0) ∧ W.cell? ⟨rb,1,none⟩ = some (.int .i64 0) ∧ W.cell? ⟨rb,2,none⟩ = some (.int .i64 0) ∧ W.cell? ⟨rb,3,none⟩ = some (.int .i64 0)) ∧ W.frozen? ⟨rb,0,none⟩ = false ∧ W.frozen? ⟨rb,1,none⟩ = false ∧ W.frozen? ⟨rb,2,none⟩ = false ∧ W.frozen? ⟨rb,3,none⟩ = false) ∧ ((put4 W rb v0 v1 v2 v3).cell? ⟨rb,0,none⟩ = some v0 ∧ (put4 W rb v0 v1 v2 v3).cell? ⟨rb,1,none⟩ = some v1 ∧ (put4 W rb v0 v1 v2 v3).cell? ⟨rb,2,none⟩ = some v2 ∧ (put4 W rb v0 v1 v2 v3).cell? ⟨rb,3,none⟩ = some v3) ∧ Below rb w (put4 W rb v0 v1 v2 v3) ∧ W.heap.size = (put4 W rb v0 v1 v2 v3).heap.size := by
 subst hrb
 refine ⟨_,rfl,(Below.refl _ _).alloc (Nat.le_refl _) _,by simp,fun W hb v0 v1 v2 v3 => ?_⟩
 have e:W.heap[w.heap.size]? = some (.cells #[.int .i64 0,.int .i64 0,.int .i64 0,.int .i64 0] 76 (0,0)) := by rw [hb.block w.heap.size (by simp)];exact heap_alloc_new w _
 have h0:Below w.heap.size w W := ((Below.refl _ _).alloc (Nat.le_refl _) _).trans (hb.mono (by simp))
 refine ⟨cells4 e,(cells4 (put4_heap e v0 v1 v2 v3)).1,h0.trans (grown_below (put4_grown W w.heap.size v0 v1 v2 v3) (Nat.le_refl _) h0.size),by simp [put4]⟩
theorem whole_any (S:Nat → Prop) (ao:Option Addr) (n c:Nat) (I:Nat → Itm) (w:World) (h:ItsAt S w ao n I) (hn:n ≤ 262144) (hok:∀ i,i < n → okI I i = true) (a b:Int) :
  Calls Tryz.prog 36 #[.slice ao n c,.int .i64 a,.int .i64 b] w fun e w' => e = .returned (lin I n a b).val ∧ Below w.heap.size w w' := by
 obtain ⟨w0,hw0,hb0,hz0,HN⟩ := res4r w _ rfl
 replace HN := boxed HN
 have hl := refline_any S ao n c I w0 (h.below hb0) hn hok a b
 have hle := upt_le I n hn hok a b
 unfold lin Sm.val
 simp only
 unfold Sm.val hasI at hl
 have HH := boxed h
 have HB0 := boxed hb0
 clear h hb0
 by_cases g:0 ≤ b ∧ b < (n:Int)
 ·have e1:(decide (0 ≤ b) && decide (b < (n:Int))) = true := by simp [g]
  have e2:itm I n b = I b.toNat := by unfold itm;rw [if_pos g]
  rw [e1] at hl
  rw [e2]
  obtain ⟨b,rfl⟩:∃ j:Nat,b = (j:Int) := ⟨b.toNat,by omega⟩
  have hbn:b < n := by omega
  have hbn2:(b:Int) < (n:Int) := by omega
  have hms := okI_ms I b (hok b hbn)
  rw [Int.toNat_natCast]
  generalize upt I n a (b:Int) = U at *
  obtain ⟨lb,off,e,-,c0,c1,-⟩ := HH.out b hbn
  subst e
  have HC:Box (∀ W,Below w.heap.size w W → W.cell? ⟨lb,off + b * 9,none⟩ = some (.int .i64 (I b).k) ∧ W.cell? ⟨lb,off + b * 9 + 1,none⟩ = some (.int .i64 (I b).w)) := boxed (fun W hW => ⟨hold hW c0,hold hW c1⟩)
  clear e1 e2 c0 c1
  generalize I b = x at *
  go_enter Tryz.func36,Tryz.ntmps36
  go_wp2_with fail
  refine hl.mono ?_
  rintro e w1 ⟨rfl,hb1⟩
  have HB1 := boxed hb1
  clear hb1 hl
  obtain ⟨wS,hwS⟩:∃ wS,w1.alloc (.cells #[.int .i64 U.w,.int .i64 U.st,.int .i64 U.sh,.int .i64 U.f] 76) = wS := ⟨_,rfl⟩
  have hbS:Below w1.heap.size w1 wS := by rw [← hwS];exact (Below.refl _ _).alloc (Nat.le_refl _) _
  have heS:wS.heap[w1.heap.size]? = some (.cells #[.int .i64 U.w,.int .i64 U.st,.int .i64 U.sh,.int .i64 U.f] 76 (0,0)) := by rw [← hwS];exact heap_alloc_new w1 _
  have hzS:wS.heap.size = w1.heap.size + 1 := by rw [← hwS];simp
  obtain ⟨SB,hSB⟩:∃ SB,w1.heap.size = SB := ⟨_,rfl⟩
  rw [hSB] at heS hzS
  have hzSB:w0.heap.size ≤ SB := by rw [← hSB];exact HB1.out.size
  have hbS0 := below_step HB1.out (Nat.le_refl _) hbS
  have hne:SB ≠ w.heap.size := by omega
  have hne2:w.heap.size ≠ SB := by omega
  obtain ⟨⟨a0,a1,a2,a3⟩,y0,y1,y2,y3⟩ := cells4 heS
  obtain ⟨d0,d1⟩ := HC.out _ (below_step HB0.out (Nat.le_refl _) hbS0)
  cases hk3:(x.k == 3)
  ·have hk3':¬ x.k = 3 := by simpa using hk3
   have ea:addd x = 0 := by unfold addd;rw [if_neg hk3']
   replace ea := boxed ea
   obtain ⟨⟨⟨p0,p1,p2,p3⟩,r0,r1,r2,r3⟩,HQ,HF,-⟩ := HN.out _ hbS0 (.int .i64 U.w) (.int .i64 U.st) (.int .i64 U.sh) (.int .i64 U.f)
   simp only [put4] at HQ HF
   replace HQ := boxed HQ
   replace HF := boxed HF
   clear hk3' hbS heS
   go_wp2_with fail
   refine bodyPost_ret (v := .agg #[.int .i64 U.w,.int .i64 U.st,.int .i64 U.sh,.int .i64 U.f]) (by have q := HQ.out;simp [results,Tryz.results36,go_sem,q]) rfl ⟨by rw [ea.out,Int.add_zero],HF.out⟩
  ·have hk3':x.k = 3 := by simpa using hk3
   have ea:addd x = x.w := by unfold addd;rw [if_pos hk3']
   replace ea := boxed ea
   have F1:(wS.setCell ⟨SB,0,none⟩ (.int .i64 (U.w + x.w))).drew.heap[SB]? = some (.cells #[.int .i64 (U.w + x.w),.int .i64 U.st,.int .i64 U.sh,.int .i64 U.f] 76 (0,0)) := arr_set (W := wS) _ heS
   have F2:Below w0.heap.size w0 (wS.setCell ⟨SB,0,none⟩ (.int .i64 (U.w + x.w))).drew := (hbS0.setCell (by simp only;omega) _).drew
   replace F1 := boxed F1
   replace F2 := boxed F2
   clear hbS heS
   go_wp2_with fail
   go_region
   obtain ⟨⟨s0,s1,s2,s3⟩,-⟩ := cells4 F1.out
   obtain ⟨⟨⟨p0,p1,p2,p3⟩,r0,r1,r2,r3⟩,HQ,HF,-⟩ := HN.out _ F2.out (.int .i64 (U.w + x.w)) (.int .i64 U.st) (.int .i64 U.sh) (.int .i64 U.f)
   simp only [put4] at HQ HF
   clear a0 a1 a2 a3 y0 y1 y2 y3 d0 d1 F1 F2
   generalize (wS.setCell ⟨SB,0,none⟩ (.int .i64 (U.w + x.w))).drew = w4 at *
   replace HQ := boxed HQ
   replace HF := boxed HF
   go_wp2_with fail
   refine bodyPost_ret (v := .agg #[.int .i64 (U.w + x.w),.int .i64 U.st,.int .i64 U.sh,.int .i64 U.f]) (by have q := HQ.out;simp [results,Tryz.results36,go_sem,q]) rfl ⟨by rw [ea.out],HF.out⟩
 ·have e1:(decide (0 ≤ b) && decide (b < (n:Int))) = false := by simp;omega
  have e2:addd (itm I n b) = 0 := by unfold itm;rw [if_neg g];rfl
  rw [e1] at hl
  rw [e2,Int.add_zero]
  generalize upt I n a b = U at *
  clear e1 e2
  go_enter Tryz.func36,Tryz.ntmps36
  go_wp2_with fail
  refine hl.mono ?_
  rintro e w1 ⟨rfl,hb1⟩
  have HB1 := boxed hb1
  clear hb1 hl
  obtain ⟨wS,hwS⟩:∃ wS,w1.alloc (.cells #[.int .i64 U.w,.int .i64 U.st,.int .i64 U.sh,.int .i64 U.f] 76) = wS := ⟨_,rfl⟩
  have hbS:Below w1.heap.size w1 wS := by rw [← hwS];exact (Below.refl _ _).alloc (Nat.le_refl _) _
  have heS:wS.heap[w1.heap.size]? = some (.cells #[.int .i64 U.w,.int .i64 U.st,.int .i64 U.sh,.int .i64 U.f] 76 (0,0)) := by rw [← hwS];exact heap_alloc_new w1 _
  have hzS:wS.heap.size = w1.heap.size + 1 := by rw [← hwS];simp
  obtain ⟨SB,hSB⟩:∃ SB,w1.heap.size = SB := ⟨_,rfl⟩
  rw [hSB] at heS hzS
  have hzSB:w0.heap.size ≤ SB := by rw [← hSB];exact HB1.out.size
  have hbS0 := below_step HB1.out (Nat.le_refl _) hbS
  have hne:SB ≠ w.heap.size := by omega
  have hne2:w.heap.size ≠ SB := by omega
  obtain ⟨⟨a0,a1,a2,a3⟩,y0,y1,y2,y3⟩ := cells4 heS
  obtain ⟨⟨⟨p0,p1,p2,p3⟩,r0,r1,r2,r3⟩,HQ,HF,-⟩ := HN.out _ hbS0 (.int .i64 U.w) (.int .i64 U.st) (.int .i64 U.sh) (.int .i64 U.f)
  simp only [put4] at HQ HF
  replace HQ := boxed HQ
  replace HF := boxed HF
  clear hbS heS
  go_wp2_with fail
  refine bodyPost_ret (v := .agg #[.int .i64 U.w,.int .i64 U.st,.int .i64 U.sh,.int .i64 U.f]) (by have q := HQ.out;simp [results,Tryz.results36,go_sem,q]) rfl ⟨rfl,HF.out⟩
theorem reffit_any (S:Nat → Prop) (ao:Option Addr) (n c:Nat) (I:Nat → Itm) (w:World) (h:ItsAt S w ao n I) (hn:n ≤ 262144) (hok:∀ i,i < n → okI I i = true) (a b width:Int) (hw:-1099511627776 ≤ width ∧ width ≤ 1099511627776) :
  Calls Tryz.prog 53 #[.slice ao n c,.int .i64 a,.int .i64 b,.int .i64 width] w fun e w' => e = .returned (setF (lin I n a b) width).val ∧ Below w.heap.size w w' := by
 obtain ⟨w0,hw0,hb0,hz0,HN⟩ := res5 w _ rfl
 replace HN := boxed HN
 have hl := whole_any S ao n c I w0 (h.below hb0) hn hok a b
 have hse := fun W => refset_any (lin I n a b) width W (lin_ok I n hn hok a b width hw).1 (lin_ok I n hn hok a b width hw).2
 generalize lin I n a b = L at *
 obtain ⟨f0,f1,f2,f3,f4,hF⟩:∃ a b c d e,setF L width = ⟨a,b,c,d,e⟩ := ⟨_,_,_,_,_,rfl⟩
 rw [hF] at hse ⊢
 unfold Sm.val at hl hse
 unfold Ft.val at hse ⊢
 simp only at hse ⊢
 clear hF h hb0
 go_enter Tryz.func53,Tryz.ntmps53
 go_wp2_with fail
 refine hl.mono ?_
 rintro e w1 ⟨rfl,hb1⟩
 have HB1 := boxed hb1
 clear hb1 hl
 go_wp2_with fail
 refine (hse _).mono ?_
 rintro e w2 ⟨rfl,hb2⟩
 have HB2 := boxed (below_step HB1.out (Nat.le_refl _) hb2)
 clear hb2 hse
 obtain ⟨⟨⟨d0,d1,d2,d3,d4⟩,g0,g1,g2,g3,g4⟩,HQ,HF,-⟩ := HN.out _ HB2.out (.int .i64 f0) (.int .i64 f1) (.int .i64 f2) (.int .i64 f3) (.bool f4)
 replace HQ := boxed HQ
 replace HF := boxed HF
 go_wp2_with fail
 refine bodyPost_ret (v := .agg #[.int .i64 f0,.int .i64 f1,.int .i64 f2,.int .i64 f3,.bool f4]) (by have q := HQ.out;simp only [put5] at q;simp [results,Tryz.results53,go_sem,q]) rfl ⟨rfl,HF.out⟩
end Go.Proofs.YtcjcdpfjnomehaaGreat
