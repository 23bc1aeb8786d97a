/- What the document's Set answers of a line that doesn't fit. -/
import Derived.Deep.Cut
import Derived.Test.YtcjcdpfjnomehaaGreatPl10
namespace Go.Proofs.YtcjcdpfjnomehaaGreat
set_option maxRecDepth 100000
set_option maxHeartbeats 40000000
open Go.RowKit
set_option linter.unusedSimpArgs false
set_option linter.unusedVariables false
theorem grown_block {a b:World} {F k:Nat} (h:a.grownBy b (some F)) (hk:k < a.heap.size) (hF:k ≠ F):b.heap[k]? = a.heap[k]? := by
 obtain ⟨_,_,_,_,h5⟩ := h
 exact h5 k hk (by simp;omega)
theorem heap_drewN (w:World) (n:Nat):(w.drewN n).heap = w.heap := rfl
theorem three_sets (w1:World) (F n:Nat) (x0 x1 x2 x3 x4 v0 v1 v2:Value) (t:TypeId) (h:w1.heap[F]? = some (.cells #[x0,x1,x2,x3,x4] t (0,0))) :
  ((((w1.setCell ⟨F,2,none⟩ v2).drewN n).setCell ⟨F,0,none⟩ v0).setCell ⟨F,1,none⟩ v1).heap[F]? = some (.cells #[v0,v1,v2,x3,x4] t (0,0)) ∧
  (∀ k,k ≠ F → ((((w1.setCell ⟨F,2,none⟩ v2).drewN n).setCell ⟨F,0,none⟩ v0).setCell ⟨F,1,none⟩ v1).heap[k]? = w1.heap[k]?) ∧
  w1.grownBy ((((w1.setCell ⟨F,2,none⟩ v2).drewN n).setCell ⟨F,0,none⟩ v0).setCell ⟨F,1,none⟩ v1) (some F) := by
 refine ⟨?_,fun k hk => ?_,?_⟩
 ·simp [World.setCell,heap_drewN,Array.getElem?_modify,h]
 ·rw [heap_setCell_other _ ⟨F,1,none⟩ k _ hk,heap_setCell_other _ ⟨F,0,none⟩ k _ hk,heap_drewN,heap_setCell_other _ ⟨F,2,none⟩ k _ hk]
 ·refine grown_trans (grown_trans (c := ((w1.setCell ⟨F,2,none⟩ v2).drewN n).setCell ⟨F,0,none⟩ v0) (grown_trans (b := w1.setCell ⟨F,2,none⟩ v2) (grown_set _ _ _ _) ?_) (grown_set _ _ _ _)) (grown_set _ _ _ _)
  exact ⟨rfl,rfl,rfl,Nat.le_refl _,fun k _ _ => rfl⟩
theorem refset_over1 (s:Sm) (width:Int) (w:World) (h:SmOk s width) (h1:width - s.w < 0) (h2:¬ -(width - s.w) ≤ s.sh) (h3:0 ≤ s.sh) (c5:0 < s.sh):Calls Tryz.prog 99 #[s.val,.int .i64 width] w fun e w' => e = .returned (setF s width).val ∧ Below w.heap.size w w' := by
 have hE:setF s width = ovF s.sh := by
  unfold setF shF
  rw [if_neg (by omega),if_neg (by omega),if_pos (by omega)]
 rw [hE]
 clear hE
 unfold SmOk at h
 obtain ⟨sw,st,sh,sf⟩ := s
 simp only at h h1 h2 h3 c5 ⊢
 have HO:ovF sh = ⟨if 0 < sh then -1 else 0,1,10000,0,true⟩ := by
  unfold ovF
  by_cases c:sh = 0
  ·rw [if_pos c,if_neg (by omega)]
  ·rw [if_neg c,if_pos (by omega)]
 rw [HO]
 clear HO
 unfold Sm.val Ft.val
 simp only
 obtain ⟨S,hS⟩:∃ S,width - sw = S := ⟨_,rfl⟩
 rw [hS] at h1 h2
 have HB:-288230376151711744 ≤ S := by omega
 have t2:decide (0 < S) = false := decide_eq_false (by omega)
 have t1:(S == 0) = false := by simp;omega
 rw [if_pos c5]
 obtain ⟨wA,hA⟩:∃ wA,((w.alloc (.cells #[.int .i64 sw,.int .i64 st,.int .i64 sh,.int .i64 sf] 76)).alloc (.cells #[.int .i64 0,.int .i64 0,.int .i64 0,.int .i64 0,.bool false] 105)).alloc (.cells #[.int .i64 0,.int .i64 0,.int .i64 0,.int .i64 0,.bool false] 105) = wA := ⟨_,rfl⟩
 have HA := boxed (heap3 w (.cells #[.int .i64 sw,.int .i64 st,.int .i64 sh,.int .i64 sf] 76) (.cells #[.int .i64 0,.int .i64 0,.int .i64 0,.int .i64 0,.bool false] 105) (.cells #[.int .i64 0,.int .i64 0,.int .i64 0,.int .i64 0,.bool false] 105))
 rw [hA] at HA
 replace hA := boxed hA
 go_enter Tryz.func99,Tryz.ntmps99
 go_wp2_with fail
 rw [hA.out]
 refine (refbad_any _ _ _).mono ?_
 rintro e w1 ⟨rfl,hb1⟩
 have E1 := boxed ((hb1.block _ (by have := HA.out.2.2.2.2;omega)).trans HA.out.1)
 have E2 := boxed ((hb1.block _ (by have := HA.out.2.2.2.2;omega)).trans HA.out.2.1)
 have E3 := boxed ((hb1.block _ (by have := HA.out.2.2.2.2;omega)).trans HA.out.2.2.1)
 have hz:w.heap.size + 3 ≤ w1.heap.size := by have := HA.out.2.2.2.2;have := hb1.size;omega
 have HB0 := boxed (HA.out.2.2.2.1.trans (hb1.mono HA.out.2.2.2.1.size))
 clear hb1 hA HA
 obtain ⟨⟨a0,a1,a2,a3⟩,-⟩ := cells4 E1.out
 obtain ⟨⟨c0,c1,c2,c3,c4⟩,z0,z1,z2,z3,z4⟩ := cells5 E3.out
 go_wp2_with fail
 refine (reflowest_any _ _ _).mono ?_
 rintro e w2 ⟨rfl,n,rfl⟩
 go_wp2_with fail
 obtain ⟨k1,k2,k3⟩ := three_sets w1 (w.heap.size + 1 + 1) n (.int .i64 0) (.int .i64 0) (.int .i64 0) (.int .i64 0) (.bool false) (.int .i64 (lo1 S sh)) (.int .i64 (lo2 S sh)) (.int .i64 (bd (-S) sh)) 105 E3.out
 have HB1 := boxed (HB0.out.trans (grown_below k3 (by omega) HB0.out.size))
 have e1 := (k2 w.heap.size (by omega)).trans E1.out
 have e2 := (k2 (w.heap.size + 1) (by omega)).trans E2.out
 have hz2 := Nat.le_trans hz (show w1.heap.size ≤ _ from k3.size)
 clear k2 k3 E1 E2 E3 a0 a1 a2 a3 c0 c1 c2 c3 c4 z0 z1 z2 z3 z4 HB0 hz
 generalize (((w1.setCell ⟨w.heap.size + 1 + 1,2,none⟩ (.int .i64 (bd (-S) sh))).drewN n).setCell ⟨w.heap.size + 1 + 1,0,none⟩ (.int .i64 (lo1 S sh))).setCell ⟨w.heap.size + 1 + 1,1,none⟩ (.int .i64 (lo2 S sh)) = w3 at *
 obtain ⟨⟨a0,a1,a2,a3⟩,-⟩ := cells4 e1
 obtain ⟨⟨b0,b1,b2,b3,b4⟩,y0,y1,y2,y3,y4⟩ := cells5 e2
 obtain ⟨⟨c0,c1,c2,c3,c4⟩,z0,z1,z2,z3,z4⟩ := cells5 k1
 have E1 := boxed e1
 have E2 := boxed e2
 have E3 := boxed k1
 clear e1 e2 k1
 refine (class_any _ _ _).mono ?_
 rintro e w' ⟨rfl,hw'⟩
 subst w'
 go_upto_region 15 with fail
 clear a0 a1 a2 a3 b0 b1 b2 b3 b4 y0 y1 y2 y3 y4 c0 c1 c2 c3 c4 z0 z1 z2 z3 z4
 have F1:(w3.setCell ⟨w.heap.size + 1 + 1,3,none⟩ (.int .i64 (cls (bd (-S) sh) false))).heap[w.heap.size + 1 + 1]? = some (.cells #[.int .i64 (lo1 S sh),.int .i64 (lo2 S sh),.int .i64 (bd (-S) sh),.int .i64 (cls (bd (-S) sh) false),.bool false] 105 (0,0)) := by
  simp [World.setCell,Array.getElem?_modify,E3.out]
 have F2 := put5_heap F1 (.int .i64 0) (.int .i64 1) (.int .i64 10000) (.int .i64 0) (.bool true)
 have G2 := grown_trans (grown_set w3 (w.heap.size + 1 + 1) 3 (.int .i64 (cls (bd (-S) sh) false))) (put5_grown _ (w.heap.size + 1 + 1) (.int .i64 0) (.int .i64 1) (.int .i64 10000) (.int .i64 0) (.bool true))
 have e1 := (grown_block G2 (k := w.heap.size) (by omega) (by omega)).trans E1.out
 have e2 := (grown_block G2 (k := w.heap.size + 1) (by omega) (by omega)).trans E2.out
 have HB2 := boxed (HB1.out.trans (grown_below G2 (by omega) HB1.out.size))
 have hz3 := Nat.le_trans hz2 G2.size
 unfold put5 at F2 HB2 e1 e2 hz3
 clear G2 F1 E1 E2 E3 HB1 hz2
 generalize (((((w3.setCell ⟨w.heap.size + 1 + 1,3,none⟩ (.int .i64 (cls (bd (-S) sh) false))).setCell ⟨w.heap.size + 1 + 1,0,none⟩ (.int .i64 0)).setCell ⟨w.heap.size + 1 + 1,1,none⟩ (.int .i64 1)).setCell ⟨w.heap.size + 1 + 1,2,none⟩ (.int .i64 10000)).setCell ⟨w.heap.size + 1 + 1,3,none⟩ (.int .i64 0)).setCell ⟨w.heap.size + 1 + 1,4,none⟩ (.bool true) = w4 at *
 have HB1 := HB2
 obtain ⟨⟨a0,a1,a2,a3⟩,-⟩ := cells4 e1
 obtain ⟨⟨b0,b1,b2,b3,b4⟩,y0,y1,y2,y3,y4⟩ := cells5 e2
 obtain ⟨⟨c0,c1,c2,c3,c4⟩,z0,z1,z2,z3,z4⟩ := cells5 F2
 clear e1 e2 F2
 go_wp2_with fail
 refine bodyPost_ret (v := .agg #[.int .i64 (-1),.int .i64 (1),.int .i64 (10000),.int .i64 (0),.bool true]) (by simp [results,Tryz.results99,go_sem,b0,b1,b2,b3,b4,y0,y1,y2,y3,y4]) rfl ⟨rfl,?_⟩
 have hb := HB1.out
 have hsz := hb.size
 repeat' (first | (with_reducible exact hb) | (with_reducible refine Below.setCell ?_ ?_ _) | (with_reducible refine Below.trans ?_ (bel_drewN _ _ _)) | (simp only;omega) | omega)
theorem refset_over0 (s:Sm) (width:Int) (w:World) (h:SmOk s width) (h1:width - s.w < 0) (h2:¬ -(width - s.w) ≤ s.sh) (h3:0 ≤ s.sh) (c5:¬ 0 < s.sh):Calls Tryz.prog 99 #[s.val,.int .i64 width] w fun e w' => e = .returned (setF s width).val ∧ Below w.heap.size w w' := by
 have hE:setF s width = ovF s.sh := by
  unfold setF shF
  rw [if_neg (by omega),if_neg (by omega),if_pos (by omega)]
 rw [hE]
 clear hE
 unfold SmOk at h
 obtain ⟨sw,st,sh,sf⟩ := s
 simp only at h h1 h2 h3 c5 ⊢
 have HO:ovF sh = ⟨if 0 < sh then -1 else 0,1,10000,0,true⟩ := by
  unfold ovF
  by_cases c:sh = 0
  ·rw [if_pos c,if_neg (by omega)]
  ·rw [if_neg c,if_pos (by omega)]
 rw [HO]
 clear HO
 unfold Sm.val Ft.val
 simp only
 obtain ⟨S,hS⟩:∃ S,width - sw = S := ⟨_,rfl⟩
 rw [hS] at h1 h2
 have HB:-288230376151711744 ≤ S := by omega
 have t2:decide (0 < S) = false := decide_eq_false (by omega)
 have t1:(S == 0) = false := by simp;omega
 rw [if_neg c5]
 obtain ⟨wA,hA⟩:∃ wA,((w.alloc (.cells #[.int .i64 sw,.int .i64 st,.int .i64 sh,.int .i64 sf] 76)).alloc (.cells #[.int .i64 0,.int .i64 0,.int .i64 0,.int .i64 0,.bool false] 105)).alloc (.cells #[.int .i64 0,.int .i64 0,.int .i64 0,.int .i64 0,.bool false] 105) = wA := ⟨_,rfl⟩
 have HA := boxed (heap3 w (.cells #[.int .i64 sw,.int .i64 st,.int .i64 sh,.int .i64 sf] 76) (.cells #[.int .i64 0,.int .i64 0,.int .i64 0,.int .i64 0,.bool false] 105) (.cells #[.int .i64 0,.int .i64 0,.int .i64 0,.int .i64 0,.bool false] 105))
 rw [hA] at HA
 replace hA := boxed hA
 go_enter Tryz.func99,Tryz.ntmps99
 go_wp2_with fail
 rw [hA.out]
 refine (refbad_any _ _ _).mono ?_
 rintro e w1 ⟨rfl,hb1⟩
 have E1 := boxed ((hb1.block _ (by have := HA.out.2.2.2.2;omega)).trans HA.out.1)
 have E2 := boxed ((hb1.block _ (by have := HA.out.2.2.2.2;omega)).trans HA.out.2.1)
 have E3 := boxed ((hb1.block _ (by have := HA.out.2.2.2.2;omega)).trans HA.out.2.2.1)
 have hz:w.heap.size + 3 ≤ w1.heap.size := by have := HA.out.2.2.2.2;have := hb1.size;omega
 have HB0 := boxed (HA.out.2.2.2.1.trans (hb1.mono HA.out.2.2.2.1.size))
 clear hb1 hA HA
 obtain ⟨⟨a0,a1,a2,a3⟩,-⟩ := cells4 E1.out
 obtain ⟨⟨c0,c1,c2,c3,c4⟩,z0,z1,z2,z3,z4⟩ := cells5 E3.out
 go_wp2_with fail
 refine (reflowest_any _ _ _).mono ?_
 rintro e w2 ⟨rfl,n,rfl⟩
 go_wp2_with fail
 obtain ⟨k1,k2,k3⟩ := three_sets w1 (w.heap.size + 1 + 1) n (.int .i64 0) (.int .i64 0) (.int .i64 0) (.int .i64 0) (.bool false) (.int .i64 (lo1 S sh)) (.int .i64 (lo2 S sh)) (.int .i64 (bd (-S) sh)) 105 E3.out
 have HB1 := boxed (HB0.out.trans (grown_below k3 (by omega) HB0.out.size))
 have e1 := (k2 w.heap.size (by omega)).trans E1.out
 have e2 := (k2 (w.heap.size + 1) (by omega)).trans E2.out
 have hz2 := Nat.le_trans hz (show w1.heap.size ≤ _ from k3.size)
 clear k2 k3 E1 E2 E3 a0 a1 a2 a3 c0 c1 c2 c3 c4 z0 z1 z2 z3 z4 HB0 hz
 generalize (((w1.setCell ⟨w.heap.size + 1 + 1,2,none⟩ (.int .i64 (bd (-S) sh))).drewN n).setCell ⟨w.heap.size + 1 + 1,0,none⟩ (.int .i64 (lo1 S sh))).setCell ⟨w.heap.size + 1 + 1,1,none⟩ (.int .i64 (lo2 S sh)) = w3 at *
 obtain ⟨⟨a0,a1,a2,a3⟩,-⟩ := cells4 e1
 obtain ⟨⟨b0,b1,b2,b3,b4⟩,y0,y1,y2,y3,y4⟩ := cells5 e2
 obtain ⟨⟨c0,c1,c2,c3,c4⟩,z0,z1,z2,z3,z4⟩ := cells5 k1
 have E1 := boxed e1
 have E2 := boxed e2
 have E3 := boxed k1
 clear e1 e2 k1
 refine (class_any _ _ _).mono ?_
 rintro e w' ⟨rfl,hw'⟩
 subst w'
 go_upto_region 15 with fail
 clear a0 a1 a2 a3 b0 b1 b2 b3 b4 y0 y1 y2 y3 y4 c0 c1 c2 c3 c4 z0 z1 z2 z3 z4
 have F1:(w3.setCell ⟨w.heap.size + 1 + 1,3,none⟩ (.int .i64 (cls (bd (-S) sh) false))).heap[w.heap.size + 1 + 1]? = some (.cells #[.int .i64 (lo1 S sh),.int .i64 (lo2 S sh),.int .i64 (bd (-S) sh),.int .i64 (cls (bd (-S) sh) false),.bool false] 105 (0,0)) := by
  simp [World.setCell,Array.getElem?_modify,E3.out]
 have F2 := put5_heap F1 (.int .i64 0) (.int .i64 1) (.int .i64 10000) (.int .i64 0) (.bool true)
 have G2 := grown_trans (grown_set w3 (w.heap.size + 1 + 1) 3 (.int .i64 (cls (bd (-S) sh) false))) (put5_grown _ (w.heap.size + 1 + 1) (.int .i64 0) (.int .i64 1) (.int .i64 10000) (.int .i64 0) (.bool true))
 have e1 := (grown_block G2 (k := w.heap.size) (by omega) (by omega)).trans E1.out
 have e2 := (grown_block G2 (k := w.heap.size + 1) (by omega) (by omega)).trans E2.out
 have HB2 := boxed (HB1.out.trans (grown_below G2 (by omega) HB1.out.size))
 have hz3 := Nat.le_trans hz2 G2.size
 unfold put5 at F2 HB2 e1 e2 hz3
 clear G2 F1 E1 E2 E3 HB1 hz2
 generalize (((((w3.setCell ⟨w.heap.size + 1 + 1,3,none⟩ (.int .i64 (cls (bd (-S) sh) false))).setCell ⟨w.heap.size + 1 + 1,0,none⟩ (.int .i64 0)).setCell ⟨w.heap.size + 1 + 1,1,none⟩ (.int .i64 1)).setCell ⟨w.heap.size + 1 + 1,2,none⟩ (.int .i64 10000)).setCell ⟨w.heap.size + 1 + 1,3,none⟩ (.int .i64 0)).setCell ⟨w.heap.size + 1 + 1,4,none⟩ (.bool true) = w4 at *
 have HB1 := HB2
 obtain ⟨⟨a0,a1,a2,a3⟩,-⟩ := cells4 e1
 obtain ⟨⟨b0,b1,b2,b3,b4⟩,y0,y1,y2,y3,y4⟩ := cells5 e2
 obtain ⟨⟨c0,c1,c2,c3,c4⟩,z0,z1,z2,z3,z4⟩ := cells5 F2
 clear e1 e2 F2
 go_wp2_with fail
 refine bodyPost_ret (v := .agg #[.int .i64 (0),.int .i64 (1),.int .i64 (10000),.int .i64 (0),.bool true]) (by simp [results,Tryz.results99,go_sem,b0,b1,b2,b3,b4,y0,y1,y2,y3,y4]) rfl ⟨rfl,?_⟩
 have hb := HB1.out
 have hsz := hb.size
 repeat' (first | (with_reducible exact hb) | (with_reducible refine Below.setCell ?_ ?_ _) | (with_reducible refine Below.trans ?_ (bel_drewN _ _ _)) | (simp only;omega) | omega)
theorem refset_any (s:Sm) (width:Int) (w:World) (h:SmOk s width) (h3:0 ≤ s.sh):Calls Tryz.prog 99 #[s.val,.int .i64 width] w fun e w' => e = .returned (setF s width).val ∧ Below w.heap.size w w' := by
 by_cases c:width - s.w = 0 ∨ (0 < width - s.w ∧ 0 < s.f)
 ·exact refset_zero s width w h c
 by_cases c1:0 < width - s.w
 ·exact refset_up s width w h c1 (by omega)
 by_cases c2:-(width - s.w) ≤ s.sh
 ·exact refset_down s width w h (by omega) c2
 by_cases c5:0 < s.sh
 ·exact refset_over1 s width w h (by omega) c2 h3 c5
 ·exact refset_over0 s width w h (by omega) c2 h3 c5
end Go.Proofs.YtcjcdpfjnomehaaGreat
