/- What the document's Lay tells: a way's lines. -/
import Derived.Deep.DeepCutAuto
import Derived.Test.YtcjcdpfjnomehaaGreatPl20
import Derived.Test.YtcjcdpfjnomehaaGreatPl29
import Derived.Test.YtcjcdpfjnomehaaGreatPl40
import Derived.Test.YtcjcdpfjnomehaaGreatPl22
namespace Go.Proofs.YtcjcdpfjnomehaaGreat
set_option maxRecDepth 100000
set_option maxHeartbeats 40000000
open Go.RowKit
set_option linter.unusedSimpArgs false
set_option linter.unusedVariables false
section
variable {Sx S S':Nat → Prop} {w:World} {ns n:Nat} {F:Nat → It.Sty} {I:Nat → Itm} {bs:List Nat} {t:ByteArray} {so ro ao bo:Option Addr} {sc m rc c bc:Nat} {L Y:Nat → Int} {width tot:Int} {em:Bool}
theorem reflay_any (hF:It.StysAt Sx w so ns F) (hr:It.RunsAt w ro m L Y) (hm:m ≤ 65536) (hl:Ru.lyf t.size L Y 0 m = (0,(t.size:Int))) (hI:ItsAt S w ao n I) (hw:WB n bs) (hc:Chn I n t.size) (h0:0 < t.size) (hb:NAt S' w bo bs) (hwid:-1099511627776 ≤ width ∧ width ≤ 1099511627776) :
  Calls Tryz.prog 20 #[.slice so ns sc,.string t,.slice ro m rc,.slice ao n c,.agg #[.slice bo bs.length bc,.int .i64 tot,.bool em],.int .i64 width] w fun e w' => ∃ oo cap l,e = .returned (.slice oo bs.length cap) ∧ l.length = bs.length ∧ w'.ownsRow w.heap.size 59 9 (.slice oo bs.length cap) bs.length (lnec l) ∧ RunsOf w.heap.size (.slice oo bs.length cap) w' l ∧ (∀ i,i < bs.length → Laid I n bs t (Ru.exr L Y m) F ns width i (nthL l i)) ∧ Below w.heap.size w w' := by
 obtain ⟨i0,hi,hz0,hz1,hz2⟩ := info_parts info_line10
 obtain ⟨W0,hW0,hB0,hN0⟩:∃ W0,w.alloc (.cells #[.slice bo bs.length bc,.int .i64 tot,.bool em] 35) = W0 ∧ Below w.heap.size w W0 ∧ W0.heap[w.heap.size]? = some (.cells #[.slice bo bs.length bc,.int .i64 tot,.bool em] 35 (0,0)) := ⟨_,rfl,(Below.refl _ _).alloc (Nat.le_refl _) _,heap_alloc_new w _⟩
 have hsz := hc.size
 have hn := hc.le
 have hbn:bs.length ≤ 262144 := by have := hw.len;omega
 have hex:(Ru.exr L Y m).length = t.size := by
  have := (Ru.lyf_ok t.size L Y 0 (by omega) hsz m t.size hl).2.2.2.2
  omega
 have hsok:Ru.Sok (Ru.exr L Y m) := exr_sok L Y m m (Nat.le_refl _) (Ru.lyf_ok t.size L Y 0 (by omega) hsz m t.size hl).2.2.2.1
 have hS := Ru.rstyles_any W0 ro m rc L Y (runs_pair (hr.below hB0)) hm (by omega)
 have HW := boxed hw
 have HC := boxed hc
 have HFs := boxed (hF.below hB0)
 have HI := boxed (hI.below hB0)
 have HBr := boxed (hb.below hB0)
 have HB0 := boxed hB0
 have HN0 := boxed hN0
 have HEX := boxed hex
 have HSO := boxed hsok
 obtain ⟨sl,hsl⟩:∃ sl,Ru.exr L Y m = sl := ⟨_,rfl⟩
 rw [hsl] at hS HEX HSO ⊢
 clear hF hr hI hw hc hb hl hex hsok hB0 hN0 hsl
 obtain ⟨M,hM⟩:∃ M,bs.length = M := ⟨_,rfl⟩
 rw [hM] at hbn hW0 HN0 ⊢
 have HM := boxed hM
 obtain ⟨c0,c1,c2⟩:W0.cell? ⟨w.heap.size,0,none⟩ = some (.slice bo M bc) ∧ W0.cell? ⟨w.heap.size,1,none⟩ = some (.int .i64 tot) ∧ W0.cell? ⟨w.heap.size,2,none⟩ = some (.bool em) := ⟨(cell_of_row _ _ _ _ _ _ HN0.out),(cell_of_row _ _ _ _ _ _ HN0.out),(cell_of_row _ _ _ _ _ _ HN0.out)⟩
 clear hM
 go_enter Tryz.func20,Tryz.ntmps20
 go_wp2_with fail
 refine hS.mono ?_
 rintro e w1 ⟨v1,rfl,ho1,hb1⟩
 rw [HEX.out] at ho1
 obtain ⟨ga,ca,rfl⟩:∃ ga ca,v1 = .slice (some ⟨ga,0,none⟩) t.size ca := by
  rcases ownsRow_forms ho1 with ⟨-,g2⟩ | ⟨g,cap,g1⟩
  ·omega
  ·exact ⟨_,_,g1⟩
 have hRf:Ru.RfAt (fun _ => True) w1 ga 0 ca sl := Ru.own_rf (B := W0.heap.size) (by rw [HEX.out];exact ho1) (fun _ _ => trivial) HSO.out (by rw [HEX.out];exact hsz)
 have HB1 := boxed (HB0.out.trans (hb1.mono HB0.out.size))
 have hCu := refcuts_any (c := c) (lc := bc) (HI.out.below hb1) HW.out HC.out (HBr.out.below hb1)
 rw [HM.out] at hCu
 have HRf := boxed hRf
 have HFs1 := boxed (HFs.out.below hb1)
 have HI1 := boxed (HI.out.below hb1)
 have HBr1 := boxed (HBr.out.below hb1)
 have c0' := hold hb1 c0
 clear hS hb1 c0 c1 c2 hW0 HFs HI HBr HN0 HB0 ho1 hRf
 go_wp2_with fail
 refine hCu.mono ?_
 rintro e w2 ⟨v2,rfl,ho2,hb2⟩
 obtain ⟨co,cc,rfl⟩ := own_shape ho2
 have hN := own_nat ho2 (by simp)
 have HB2 := boxed (below_step HB1.out (Nat.le_refl _) hb2)
 have hMp:0 < M := by have := HW.out.pos;rw [HM.out] at this;exact this
 have hlr:((List.range M).map (lnC I n bs t.size)).length = M := by simp
 obtain ⟨cg,rfl,-,hcg⟩ := hN.form (by rw [hlr];exact hMp)
 have HCG:Box (∀ i,i < M → w2.cell? ⟨cg,i,none⟩ = some (.int .i64 (lnC I n bs t.size i:Nat))) := boxed (fun i hi => by
  have := hcg i (by rw [hlr];exact hi)
  rw [this]
  simp [hi])
 have HRf2 := boxed (HRf.out.below hb2)
 have HFs2 := boxed (HFs1.out.below hb2)
 have HI2 := boxed (HI1.out.below hb2)
 have HBr2 := boxed (HBr1.out.below hb2)
 have HC0 := boxed (hold hb2 c0')
 have HLy:Box (LyI w2 w2 I n bs t sl F ns width 0 none 0) := boxed ⟨Below.refl _ _,[],rfl,World.ownsRow_nil _ _ _ _,(fun x hx => by simp at hx),fun i hi => by omega⟩
 clear hN hcg hb2 hCu HRf HFs1 HI1 HBr1 c0' hlr ho2
 go_wp2_with fail
 go_loopw [13,16,17,18] (fun vo vf va vk wr => ∃ (k:Nat) (oo:Option Addr) (cp:Nat),k ≤ M ∧ vk = .int .i64 (k:Nat) ∧ vo = .slice oo k cp ∧ vf = .int .i64 (lnF I n bs t.size k:Nat) ∧ va = .int .i64 (lnA bs k) ∧ Box (LyI w2 wr I n bs t sl F ns width k oo cp)) (fun _ _ _ vk _ => M - (intOf vk).toNat)
 case atStart => exact ⟨0,none,0,Nat.zero_le _,rfl,rfl,by rw [lnF_zero];rfl,by rw [lnA_zero],HLy⟩
 case round =>
  obtain ⟨k,oo,cp,hk,rfl,rfl,rfl,rfl,HLI⟩ := hrel
  by_cases hlt:k < M
  ·have hle := ln_le HW.out HC.out k (by rw [HM.out];exact hlt)
   have hF1 := lnF_next (I := I) (n := n) (bs := bs) (sz := t.size) k
   have hA1 := lnA_next (bs := bs) k
   obtain ⟨bg,hbe,-,hbg⟩ := HBr2.out.form (by rw [HM.out];exact hMp)
   have hbs := HW.out.lt k (by rw [HM.out];exact hlt)
   have x0 := hold HLI.out.bel (HCG.out k hlt)
   have x1 := hold HLI.out.bel HC0.out
   have x2 := hold HLI.out.bel (hbg k (by rw [HM.out];exact hlt))
   generalize hlf:lnF I n bs t.size k = lf at *
   generalize hlc:lnC I n bs t.size k = ct at *
   generalize hla:lnA bs k = la at *
   generalize hbk:bs.getD k 0 = bk at *
   subst hbe
   have HX:Box (∀ W,Below wr.heap.size wr W → W.cell? ⟨cg,k,none⟩ = some (.int .i64 (ct:Nat)) ∧ W.cell? ⟨w.heap.size,0,none⟩ = some (.slice (some ⟨bg,0,none⟩) M bc) ∧ W.cell? ⟨bg,k,none⟩ = some (.int .i64 (bk:Nat))) := boxed (fun W hb => ⟨hold hb x0,hold hb x1,hold hb x2⟩)
   have hFi := reffit_any S ao n c I wr (HI2.out.below HLI.out.bel) hn HC.out.ok la (bk:Nat) width hwid
   unfold Ft.val at hFi
   generalize hFt:setF (lin I n la (bk:Nat)) width = ft at *
   have hss := str_mid t lf ct hle.1 hle.2
   have hsm := Ru.sl_mid ga 0 t.size ca lf ct hle.1 hle.2 (by have := HRf2.out.cap;rw [HEX.out] at this;exact this)
   obtain ⟨kb,hkb⟩:∃ kb,((k:Int) == 0) = kb := ⟨_,rfl⟩
   obtain ⟨ke,hke⟩:∃ ke,((k:Int) == (M:Int) - 1) = ke := ⟨_,rfl⟩
   generalize hte:t.extract lf ct = te at *
   go_wp2_with fail
   refine hFi.mono ?_
   rintro e w4 ⟨rfl,hb4⟩
   obtain ⟨y0,y1,y2⟩ := HX.out _ hb4
   have HB4 := boxed hb4
   obtain ⟨W4,hW4,hBW,hNW⟩:∃ W4,w4.alloc (.cells #[.int .i64 ft.num,.int .i64 ft.den,.int .i64 ft.bad,.int .i64 ft.cls,.bool ft.over] 105) = W4 ∧ Below w4.heap.size w4 W4 ∧ W4.heap[w4.heap.size]? = some (.cells #[.int .i64 ft.num,.int .i64 ft.den,.int .i64 ft.bad,.int .i64 ft.cls,.bool ft.over] 105 (0,0)) := ⟨_,rfl,(Below.refl _ _).alloc (Nat.le_refl _) _,heap_alloc_new w4 _⟩
   have HBW := boxed (hb4.trans (hBW.mono hb4.size))
   have z0:W4.cell? ⟨w4.heap.size,0,none⟩ = some (.int .i64 ft.num) := cell_of_row _ _ _ _ _ _ hNW
   have z1:W4.cell? ⟨w4.heap.size,1,none⟩ = some (.int .i64 ft.den) := cell_of_row _ _ _ _ _ _ hNW
   have hz4:w4.heap.size < W4.heap.size := (Array.getElem?_eq_some_iff.1 hNW).1
   have hz5:w4.heap.size ≠ W4.heap.size := by omega
   replace y0 := hold hBW y0
   have hcg4 := World.block_lt_of_cell? W4 _ y0
   simp only at hcg4
   have g1:cg ≠ W4.heap.size := by omega
   clear hb4 hFi x0 x1 x2 y1 y2 hBW hNW
   go_wp2_with fail
   go_region
   have hBW5 := HBW.out.alloc HBW.out.size (.cells #[.string te,.slice none 0 0,.int .i64 ft.num,.int .i64 ft.den,.int .i64 0,.bool false,.int .i64 0,.bool kb,.bool ke] 59)
   have hE5 := heap_alloc_new W4 (.cells #[.string te,.slice none 0 0,.int .i64 ft.num,.int .i64 ft.den,.int .i64 0,.bool false,.int .i64 0,.bool kb,.bool ke] 59)
   obtain ⟨W5,hW5,hB5,e5⟩:∃ W5,(W4.alloc (.cells #[.string te,.slice none 0 0,.int .i64 ft.num,.int .i64 ft.den,.int .i64 0,.bool false,.int .i64 0,.bool kb,.bool ke] 59)).drew = W5 ∧ Below wr.heap.size wr W5 ∧ W5.heap[W4.heap.size]? = some (.cells #[.string te,.slice none 0 0,.int .i64 ft.num,.int .i64 ft.den,.int .i64 0,.bool false,.int .i64 0,.bool kb,.bool ke] 59 (0,0)) := ⟨_,rfl,hBW5.drew,hE5⟩
   rw [hW5]
   obtain ⟨X,hX⟩:∃ X,W4.heap.size = X := ⟨_,rfl⟩
   have hXr:wr.heap.size ≤ X := by rw [← hX];exact HBW.out.size
   rw [hX] at e5 ⊢
   have HB5 := boxed hB5
   have HE5 := boxed e5
   obtain ⟨y0,y1,y2⟩ := HX.out _ hB5
   have hRu := fun W (hb:Below wr.heap.size wr W) => Ru.rruns_mid (fun _ => True) W ga 0 ca sl (HRf2.out.below (HLI.out.bel.trans (hb.mono HLI.out.bel.size))) lf ct hle.1 (by rw [HEX.out];exact hle.2)
   have HRu := boxed hRu
   clear hBW5 hE5 hW5 hX hB5 e5 hW4 z0 z1 hz4 hz5 hcg4 g1 HBW HB4 hRu hss
   go_wp2_with fail
   refine (HRu.out _ HB5.out).mono ?_
   rintro e w6 ⟨v6,rfl,ho6,hb6⟩
   obtain ⟨po,pc,rfl⟩ := own_shape ho6
   have hX5 := (Array.getElem?_eq_some_iff.1 HE5.out).1
   have e6 := (hb6.block X hX5).trans HE5.out
   have hpr := Ru.own_runs ho6 rfl (Ru.enc_ok (Ru.sok_sub HSO.out lf ct) (by
    have := Ru.sub_len sl lf ct (by rw [HEX.out];omega)
    omega))
   have HB6 := boxed (HB5.out.trans (hb6.mono HB5.out.size))
   have hel := Ru.enc_len (Ru.sub sl lf ct)
   have hsl5 := Ru.sub_len sl lf ct (by rw [HEX.out];exact hle.2)
   have hpr2:Ru.P2At (fun b => b ≠ X ∧ wr.heap.size ≤ b) w6 po (Ru.enc (Ru.sub sl lf ct)).length (rnL sl lf ct) (rnY sl lf ct) := hpr.keep (fun b i u hs hc => ⟨⟨by omega,Nat.le_trans HB5.out.size hs⟩,hc⟩)
   generalize hEN:(Ru.enc (Ru.sub sl lf ct)).length = en at *
   obtain ⟨⟨c0,c1,c2,c3,c4,c5,c6,c7,c8⟩,-,f1,-⟩ := cells9 e6
   obtain ⟨W7,hW7,hB7,e7⟩:∃ W7,w6.setCell ⟨X,1,none⟩ (.slice po en pc) = W7 ∧ Below wr.heap.size wr W7 ∧ W7.heap[X]? = some (.cells #[.string te,.slice po en pc,.int .i64 ft.num,.int .i64 ft.den,.int .i64 0,.bool false,.int .i64 0,.bool kb,.bool ke] 59 (0,0)) := ⟨_,rfl,HB6.out.setCell hXr _,arr_set _ e6⟩
   have HPr7:Box (Ru.P2At (fun b => b ≠ X ∧ wr.heap.size ≤ b) W7 po en (rnL sl lf ct) (rnY sl lf ct)) := boxed (hpr2.keep (fun b i u hs hc => ⟨hs,by rw [← hW7,World.cell?_setCell_far _ _ _ _ (show X ≠ b from fun e => hs.1 e.symm)];exact hc⟩))
   have HB7 := boxed hB7
   have HE7 := boxed e7
   obtain ⟨T1,hT1⟩:∃ T1,t.size = T1 + 1 := ⟨t.size - 1,by omega⟩
   have hTi:(t.size:Int) - 1 = (T1:Int) := by omega
   have hT2:(T1:Int) < (t.size:Int) := by omega
   have hT3:T1 < t.size := by omega
   have hga := (HRf2.out.below (HLI.out.bel.trans (hB7.mono HLI.out.bel.size))).cells T1 (by rw [HEX.out];omega)
   rw [Nat.zero_add] at hga
   have hOf := It.refof_any Sx so ns sc F W7 (HFs2.out.below (HLI.out.bel.trans (hB7.mono HLI.out.bel.size))) (sl.getD T1 0)
   have hfl := It.fld0
   unfold It.Sty.val at hOf
   have HT1 := boxed hT1
   generalize hyl:sl.getD T1 0 = yl at *
   generalize hsy:It.ofS F ns yl = sy at *
   clear hT1 hb6 ho6 hpr hpr2 HRu e6 hB7 e7 y0 y1 y2 HB5 HE5 hX5
   go_wp2_with fail
   refine hOf.mono ?_
   rintro e w8 ⟨rfl,hb8⟩
   have hX7 := (Array.getElem?_eq_some_iff.1 HE7.out).1
   have e8 := (hb8.block X hX7).trans HE7.out
   have hB8 := HB7.out.trans (hb8.mono HB7.out.size)
   obtain ⟨⟨d0,d1,d2,d3,d4,d5,d6,d7,d8⟩,-,-,-,-,f4,-⟩ := cells9 e8
   obtain ⟨W9,hW9,hB9,e9⟩:∃ W9,w8.setCell ⟨X,4,none⟩ (.int .i64 sy.h) = W9 ∧ Below wr.heap.size wr W9 ∧ W9.heap[X]? = some (.cells #[.string te,.slice po en pc,.int .i64 ft.num,.int .i64 ft.den,.int .i64 sy.h,.bool false,.int .i64 0,.bool kb,.bool ke] 59 (0,0)) := ⟨_,rfl,hB8.setCell hXr _,arr_set _ e8⟩
   have HPr9:Box (Ru.P2At (fun b => b ≠ X ∧ wr.heap.size ≤ b) W9 po en (rnL sl lf ct) (rnY sl lf ct)) := boxed ((HPr7.out.below hb8).keep (fun b i u hs hc => ⟨hs,by rw [← hW9,World.cell?_setCell_far _ _ _ _ (show X ≠ b from fun e => hs.1 e.symm)];exact hc⟩))
   have HB9 := boxed hB9
   have HE9 := boxed e9
   obtain ⟨y0,y1,y2⟩ := HX.out _ hB9
   obtain ⟨⟨z0,z1,z2,z3,z4,z5,z6,z7,z8⟩,-,-,-,-,zf4,-⟩ := cells9 e9
   have hTl := It.reftallest_any Sx so ns sc F W9 (HFs2.out.below (HLI.out.bel.trans (hB9.mono HLI.out.bel.size))) po en pc (rnL sl lf ct) (rnY sl lf ct) (by unfold maxLen;omega) (pair_runs HPr9.out)
   have HHg:Box (hgt F ns sl lf ct = if lf < ct then It.talT F ns (rnL sl lf ct) (rnY sl lf ct) en else sy.h) := boxed (by
    unfold hgt
    rw [hEN,HEX.out,HT1.out,Nat.add_sub_cancel,hyl,hsy])
   generalize It.talT F ns (rnL sl lf ct) (rnY sl lf ct) en = tl at *
   generalize hHh:hgt F ns sl lf ct = hh at *
   clear hb8 e8 hB8 hB9 e9 c0 c1 c2 c3 c4 c5 c6 c7 c8 f1 hOf HB7 HE7 HPr7 hga hTi hT2 hT3 hsm hX7
   go_upto_if 88 with (fail)
   clear hW7 d0 d1 d2 d3 d4 d5 d6 d7 d8 f4 hfl
   go_cut [] (fun wx => Box (Below wr.heap.size wr wx) ∧ Box (wx.heap[X]? = some (.cells #[.string te,.slice po en pc,.int .i64 ft.num,.int .i64 ft.den,.int .i64 hh,.bool false,.int .i64 0,.bool kb,.bool ke] 59 (0,0))) ∧ Box (Ru.P2At (fun b => b ≠ X ∧ wr.heap.size ≤ b) wx po en (rnL sl lf ct) (rnY sl lf ct)))
   case first =>
    by_cases cl:lf < ct
    ·have t1:decide ((lf:Int) < (ct:Int)) = true := decide_eq_true (by omega)
     have t1':decide (lf < ct) = true := decide_eq_true cl
     rw [if_pos cl] at HHg
     go_wp2_with fail
     refine hTl.mono ?_
     rintro e w10 ⟨rfl,hb10⟩
     have hX9 := (Array.getElem?_eq_some_iff.1 HE9.out).1
     have e10 := (hb10.block X hX9).trans HE9.out
     have hB10 := HB9.out.trans (hb10.mono HB9.out.size)
     obtain ⟨⟨d0,d1,d2,d3,d4,d5,d6,d7,d8⟩,-,-,-,-,f4,-⟩ := cells9 e10
     have HZ:Box (Below wr.heap.size wr (w10.setCell ⟨X,4,none⟩ (.int .i64 tl)) ∧ (w10.setCell ⟨X,4,none⟩ (.int .i64 tl)).heap[X]? = some (.cells #[.string te,.slice po en pc,.int .i64 ft.num,.int .i64 ft.den,.int .i64 hh,.bool false,.int .i64 0,.bool kb,.bool ke] 59 (0,0)) ∧ Ru.P2At (fun b => b ≠ X ∧ wr.heap.size ≤ b) (w10.setCell ⟨X,4,none⟩ (.int .i64 tl)) po en (rnL sl lf ct) (rnY sl lf ct)) := boxed ⟨hB10.setCell hXr _,by rw [HHg.out];exact arr_set _ e10,(HPr9.out.below hb10).keep (fun b i u hs hc => ⟨hs,by rw [World.cell?_setCell_far _ _ _ _ (show X ≠ b from fun e => hs.1 e.symm)];exact hc⟩)⟩
     clear hb10 e10 hB10 hTl
     go_wp2_with fail
     go_meet
     case rel => exact ⟨boxed HZ.out.1,boxed HZ.out.2.1,boxed HZ.out.2.2⟩
    ·have t1:decide ((lf:Int) < (ct:Int)) = false := decide_eq_false (by omega)
     have t1':decide (lf < ct) = false := decide_eq_false cl
     rw [if_neg cl] at HHg
     go_wp2_with fail
     go_meet
     case rel => exact ⟨HB9,by rw [HHg.out];exact HE9,HPr9⟩
   case rest =>
    obtain ⟨HBc,HEc,HPc⟩ := hcut
    clear HHg hTl HE9 HB9 HPr9 y0 y1 y2 z0 z1 z2 z3 z4 z5 z6 z7 z8 zf4 hW9
    obtain ⟨y0,y1,y2⟩ := HX.out _ HBc.out
    obtain ⟨ib,off,hie,-,ic0,ic1,ic2,ic3,ic4,ic5,ic6,ic7,ic8⟩ := (HI2.out.below (HLI.out.bel.trans (HBc.out.mono HLI.out.bel.size))) bk hbs
    subst hie
    have hib := World.block_lt_of_cell? wc _ ic0
    have hbgc := World.block_lt_of_cell? wc _ y2
    have hwc0 := World.block_lt_of_cell? wc _ y1
    simp only at hib hbgc hwc0
    have hXc := (Array.getElem?_eq_some_iff.1 HEc.out).1
    have n1:ib ≠ wc.heap.size := by omega
    have n2:bg ≠ wc.heap.size := by omega
    have n3:w.heap.size ≠ wc.heap.size := by omega
    have hbk2:(bk:Int) < (n:Int) := by omega
    obtain ⟨W11,hW11,hB11,hN11⟩:∃ W11,wc.alloc (.cells #[.int .i64 (I bk).k,.int .i64 (I bk).w,.int .i64 (I bk).st,.int .i64 (I bk).sh,.bool (I bk).fill,.int .i64 (I bk).c,.bool (I bk).flag,.int .i64 (I bk).fr,.int .i64 (I bk).to] 80) = W11 ∧ Below wc.heap.size wc W11 ∧ W11.heap[wc.heap.size]? = some (.cells #[.int .i64 (I bk).k,.int .i64 (I bk).w,.int .i64 (I bk).st,.int .i64 (I bk).sh,.bool (I bk).fill,.int .i64 (I bk).c,.bool (I bk).flag,.int .i64 (I bk).fr,.int .i64 (I bk).to] 80 (0,0)) := ⟨_,rfl,(Below.refl _ _).alloc (Nat.le_refl _) _,heap_alloc_new wc _⟩
    have e11 := (hB11.block X hXc).trans HEc.out
    have HB11 := boxed (HBc.out.trans (hB11.mono HBc.out.size))
    have HP11 := boxed (HPc.out.below hB11)
    have HE11 := boxed e11
    obtain ⟨⟨j0,j1,j2,j3,j4,j5,j6,j7,j8⟩,-⟩ := cells9 hN11
    obtain ⟨⟨d0,d1,d2,d3,d4,d5,d6,d7,d8⟩,-,-,-,-,-,f5,-⟩ := cells9 e11
    have hXn:X ≠ wc.heap.size := by omega
    generalize hhp:((I bk).flag && decide ((I bk).fr < (I bk).to)) = hp at *
    generalize hIb:I bk = z at *
    clear hB11 hN11 e11 HEc HBc HPc
    go_upto_region 15 with (fail)
    clear ic0 ic1 ic2 ic3 ic4 ic5 ic6 ic7 ic8 y0 y1 y2 hW11
    go_cut [] (fun wx => Box (Below wr.heap.size wr wx) ∧ Box (wx.heap[X]? = some (.cells #[.string te,.slice po en pc,.int .i64 ft.num,.int .i64 ft.den,.int .i64 hh,.bool hp,.int .i64 0,.bool kb,.bool ke] 59 (0,0))) ∧ Box (Ru.P2At (fun b => b ≠ X ∧ wr.heap.size ≤ b) wx po en (rnL sl lf ct) (rnY sl lf ct)))
    case first =>
     have HZ:Box (Below wr.heap.size wr (W11.setCell ⟨X,5,none⟩ (.bool hp)) ∧ (W11.setCell ⟨X,5,none⟩ (.bool hp)).heap[X]? = some (.cells #[.string te,.slice po en pc,.int .i64 ft.num,.int .i64 ft.den,.int .i64 hh,.bool hp,.int .i64 0,.bool kb,.bool ke] 59 (0,0)) ∧ Ru.P2At (fun b => b ≠ X ∧ wr.heap.size ≤ b) (W11.setCell ⟨X,5,none⟩ (.bool hp)) po en (rnL sl lf ct) (rnY sl lf ct)) := boxed ⟨HB11.out.setCell hXr _,arr_set _ HE11.out,HP11.out.keep (fun b i u hs hc => ⟨hs,by rw [World.cell?_setCell_far _ _ _ _ (show X ≠ b from fun e => hs.1 e.symm)];exact hc⟩)⟩
     clear HB11 HE11 HP11
     cases hfg:z.flag
     ·have hp0:hp = false := by rw [← hhp,hfg];rfl
      subst hp0
      rw [hfg] at j6
      clear hhp
      go_wp2_with fail
      try go_region
      go_meet
      case rel => first | exact ⟨boxed HZ.out.1,boxed HZ.out.2.1,boxed HZ.out.2.2⟩ | exact ⟨boxed HZ.out.1.drew,boxed HZ.out.2.1,boxed (HZ.out.2.2.below (Below.refl _ _).drew)⟩
     ·rw [hfg] at j6
      by_cases cf:z.fr < z.to
      ·have t1:decide (z.fr < z.to) = true := decide_eq_true cf
       have hp0:hp = true := by rw [← hhp,hfg,t1];rfl
       subst hp0
       clear hhp
       go_wp2_with fail
       try go_region
       go_meet
       case rel => first | exact ⟨boxed HZ.out.1,boxed HZ.out.2.1,boxed HZ.out.2.2⟩ | exact ⟨boxed HZ.out.1.drew,boxed HZ.out.2.1,boxed (HZ.out.2.2.below (Below.refl _ _).drew)⟩
      ·have t1:decide (z.fr < z.to) = false := decide_eq_false cf
       have hp0:hp = false := by rw [← hhp,hfg,t1];rfl
       subst hp0
       clear hhp
       go_wp2_with fail
       try go_region
       go_meet
       case rel => first | exact ⟨boxed HZ.out.1,boxed HZ.out.2.1,boxed HZ.out.2.2⟩ | exact ⟨boxed HZ.out.1.drew,boxed HZ.out.2.1,boxed (HZ.out.2.2.below (Below.refl _ _).drew)⟩
    case rest =>
     obtain ⟨HBd,HEd,HPd⟩ := hcut
     clear HB11 HE11 HP11 j0 j1 j2 j3 j4 j5 j6 j7 j8 d0 d1 d2 d3 d4 d5 d6 d7 d8 f5
     obtain ⟨l,q1,q2,q3,q4⟩ := HLI.out.out
     have HO := boxed (owns_below q2 HBd.out)
     have HRo:Box (RunsOf w2.heap.size (.slice oo k cp) wc l) := boxed (fun x hx => (q3 x hx).below HBd.out)
     have HPn:Box (Ru.P2At (fun b => w2.heap.size ≤ b ∧ (Value.slice oo k cp).ownBlock ≠ some b) wc po en (rnL sl lf ct) (rnY sl lf ct)) := boxed (HPd.out.keep (fun b i u hs hc => ⟨⟨Nat.le_trans HLI.out.bel.size hs.2,fun c => by
      have := (q2.lt b c).2
      omega⟩,hc⟩))
     have HQ := boxed (And.intro q1 q4)
     have hbw2 := HLI.out.bel.trans (HBd.out.mono HLI.out.bel.size)
     have HW2 := boxed hbw2
     obtain ⟨⟨d0,d1,d2,d3,d4,d5,d6,d7,d8⟩,-⟩ := cells9 HEd.out
     have hown := HO.out
     have hcs := hbw2.size
     have hXc2 := (Array.getElem?_eq_some_iff.1 HEd.out).1
     have hXn2:X ≠ wc.heap.size := by omega
     clear q1 q2 q3 q4 hbw2
     go_wp2_with (at_builtin;refine It.wpList_append_apart rfl _ _ 32 rfl w2.heap.size 59 i0 _ 9 88 Tryz.underlying32 hi hz0 hz1 hz2 rfl (by decide) _ _ _ rfl (hown.alloc _) ⟨wc.heap.size,0,none⟩ 1 1 [.string te,.slice po en pc,.int .i64 ft.num,.int .i64 ft.den,.int .i64 hh,.bool hp,.int .i64 0,.bool kb,.bool ke] rfl rfl ?c1 ?c2 ?c3 ?c4 ?c5 ?c6 ?_)
     case c1 => exact new_cells wc [.string te,.slice po en pc,.int .i64 ft.num,.int .i64 ft.den,.int .i64 hh,.bool hp,.int .i64 0,.bool kb,.bool ke] 59
     case c2 =>
      intro u hu
      simp at hu
      rcases hu with rfl | rfl | rfl | rfl | rfl | rfl | rfl | rfl | rfl <;> rfl
     case c3 => unfold maxLen;omega
     case c4 => omega
     case c5 => simp;omega
     case c6 => omega
     intro v' w12 hown12 hgrow12 hwh12
     obtain ⟨ao6,cp6,rfl⟩ := own_shape hown12
     have HF:Box (LyI w2 w12 I n bs t sl F ns width (k + 1) ao6 cp6) := boxed (by
      obtain ⟨q1,q4⟩ := HQ.out
      refine ⟨(HW2.out.alloc HW2.out.size _).grown hgrow12 (by simp;omega) (fun r e => (HO.out.lt r e).1),l ++ [⟨te,po,en,pc,ft.num,ft.den,hh,hp,0,kb,ke,rnL sl lf ct,rnY sl lf ct⟩],by simp [q1],?_,?_,?_⟩
      ·rw [lnec_app,lnec_one];exact hown12
      ·exact runs_step (Below.refl _ wc) HO.out HRo.out HPn.out hgrow12 (by rw [World.size_alloc];exact hwh12)
      ·intro i hi
       by_cases c:i < k
       ·rw [nthL_left _ _ _ (by omega)];exact q4 i c
       ·obtain rfl:i = k := by omega
        have e1 := nthL_last l ⟨te,po,en,pc,ft.num,ft.den,hh,hp,0,kb,ke,rnL sl lf ct,rnY sl lf ct⟩
        rw [q1] at e1
        rw [e1]
        refine ⟨?_,?_,?_,?_,?_,?_,?_,?_,rfl,?_,?_⟩
        ·rw [hlf,hlc];exact hte.symm
        ·rw [hlf,hlc];exact hEN.symm
        ·intro j _;rw [hlf,hlc]
        ·intro j _;rw [hlf,hlc]
        ·rw [hla,hbk,hFt]
        ·rw [hla,hbk,hFt]
        ·rw [hlf,hlc];exact hHh.symm
        ·rw [hbk,hIb];exact hhp.symm
        ·show kb = _
         rw [← hkb,Bool.eq_iff_iff,beq_iff_eq,decide_eq_true_eq];omega
        ·show ke = _
         have h2 := HM.out
         rw [← hke,Bool.eq_iff_iff,beq_iff_eq,decide_eq_true_eq];omega)
     have x0 := hold HF.out.bel (HCG.out k hlt)
     have x1 := hold HF.out.bel HC0.out
     have x2 := hold HF.out.bel (hbg k (by rw [HM.out];exact hlt))
     rw [hlc] at x0
     rw [hbk] at x2
     clear hown12 hgrow12 hwh12 hown HO HRo HPn HQ hkb hke d0 d1 d2 d3 d4 d5 d6 d7 d8
     have hun:undef = Value.tuple #[] := rfl
     have hlt2:(k:Int) < (M:Int) := by omega
     go_wp2_with fail
     go_quiet (fail)
     clear hun
     have HFd:Box (LyI w2 (w12.drewN nq) I n bs t sl F ns width (k + 1) ao6 cp6) := boxed ⟨HF.out.bel.trans (bel_drewN _ _ _),HF.out.out⟩
     go_wp2_with fail
     go_roundw
     case rel => exact ⟨k + 1,ao6,cp6,by omega,by go_num,rfl,by rw [hF1],by rw [hA1],HFd⟩
     case measure => simp [intOf];omega
  ·obtain rfl:M = k := by omega
   go_wp2
   go_ret
   obtain ⟨l,q1,q2,q3,q4⟩ := HLI.out.out
   have hw2 := HB2.out.size
   exact ⟨oo,cp,l,rfl,q1,own_down q2 hw2,fun x hx => (q3 x hx).keep (fun b i u hs hc => ⟨⟨Nat.le_trans hw2 hs.1,hs.2⟩,hc⟩),q4,HB2.out.trans (HLI.out.bel.mono hw2)⟩
end
end Go.Proofs.YtcjcdpfjnomehaaGreat
