/-
  For any styles and any paragraph the statement TopParagraph of the program returns true: a paragraph's lines are those of the way that costs least of all whose lines do, the first of them in order; where none do, by the emergency's rule. No condition besides the statement's own.
-/
import Derived.Test.YtcjcdpfjnomehabGreatRows
import Derived.WalkKit
import Derived.ProofKit
import Derived.OpenShut
import Derived.SizedLaws
import Derived.ShutString
import Derived.ChangeOld
import Derived.Below
import Derived.Test.YtcjcdpfjnomehabGreatPk25
import Derived.Test.YtcjcdpfjnomehabGreatPk36
import Derived.Test.YtcjcdpfjnomehabGreatPk39
import Derived.Test.YtcjcdpfjnomehabGreatPk40
import Derived.Test.YtcjcdpfjnomehabGreatPk42
import Derived.Test.YtcjcdpfjnomehabGreatPk33
import Derived.Deep.RegionLaw
namespace Go.Proofs.YtcjcdpfjnomehabGreat.topParagraph
set_option maxRecDepth 100000
set_option maxHeartbeats 40000000
open Go.ChangeShapes Go.WideShapes Go.ChangeAt Go.RowKit
open Go.ChangeMaps (open_string shut_string)
set_option linter.unusedVariables false
set_option linter.unusedSimpArgs false
theorem own : ownKnob Tryz.prog.godebug = none := by kernel_rfl
theorem laidOut : laidOutB Tryz.prog = true := by kernel_rfl
theorem walk (w : World) (ao0 : Option Addr) (n0 cap0 : Nat) (F0 : Nat → It.Sty) (hn0 : n0 ≤ cap0 ∧ cap0 * 80 ≤ 140737488351232) (hF0 : It.StysAt (fun _ => True) w ao0 n0 F0) (t1 : ByteArray) (ro1 : Option Addr) (m1 rc1 : Nat) (wd1 : Int) (s1 : Stg) (L1 Y1 : Nat → Int) (ht1 : t1.size ≤ maxLen) (hm1 : m1 ≤ maxLen ∧ m1 ≤ rc1) (hr1 : It.RunsAt w ro1 m1 L1 Y1) (hs1 : I64 wd1 ∧ I64 s1.t ∧ I64 s1.l ∧ I64 s1.a ∧ I64 s1.d ∧ I64 s1.z ∧ I64 s1.o ∧ I64 s1.i) :
  Calls Tryz.prog 3 #[.slice ao0 n0 cap0,paraV t1 ro1 m1 rc1 wd1 s1] w fun e w' => e = .returned (.bool true) ∧ Below w.heap.size w w' := by
 obtain ⟨W0,hW0,hB0,hne0,hK⟩ := prc_at w t1 ro1 m1 rc1 wd1 s1
 have HA := boxed (plain_any W0)
 have HK := boxed hK
 have HT := boxed (fun W (hb : Below W0.heap.size W0 W) => It.table_any (fun _ => True) ao0 n0 cap0 F0 W (hF0.below (hK W hb).2))
 have hRi := fun W => right9_any wd1 s1 W
 have HF0 := boxed hF0
 have HR := boxed hr1
 have hm1' := hm1
 unfold maxLen at hm1' ht1
 unfold paraV
 unfold Stg.val at hRi
 clear hF0 hr1 hK hs1 hB0 hm1 hn0
 go_enter Tryz.func3,Tryz.ntmps3
 go_wp2_with fail
 refine HA.out.mono ?_
 rintro e w1 ⟨pb0,rfl,hst,hb1⟩
 have HB1 := boxed hb1
 have hta := It.table_any (fun _ => True) (some ⟨pb0,0,none⟩) 1 1 (fun _ => exS10) w1 hst
 clear hb1 HA hst hW0
 go_wp2_with fail
 refine hta.mono ?_
 rintro e w2 ⟨hor,hb2⟩
 have HB2 := boxed (below_step HB1.out (Nat.le_refl _) hb2)
 rcases hor with ⟨hne,-⟩ | ⟨-,tb0,G0,rfl,hT0,-⟩
 ·exact absurd exS10_ck hne
 have hSt := It.styles_any hT0
 clear hb2 hta
 go_wp2_with (go_at_call 6;refine hSt.mono ?_;rintro e w' ⟨rfl,hw'⟩;subst w')
 refine (HT.out _ HB2.out).mono ?_
 rintro e w4 ⟨hor,hb4⟩
 have HB4 := boxed (below_step HB2.out (Nat.le_refl _) hb4)
 clear hb4 HT hSt hT0
 rcases hor with ⟨hne,rfl⟩ | ⟨hz,tb,G,rfl,hT,hL⟩
 ·clear hne
  go_wp2
  go_ret
  exact ⟨rfl,(HK.out _ HB4.out).2⟩
 obtain ⟨⟨hn1,hn32⟩,-,hgF⟩ := It.ckc_good F0 n0 hz
 have hgG : ∀ i,i < n0 → It.flt (G i) = 0 := fun i hi => by rw [It.flt_like (hL i hi)];exact hgF i hi
 have HT4 := boxed hT
 have HLK := boxed hL
 have HGF := boxed hgF
 have HGG := boxed hgG
 clear hT hL hz hgF hgG
 obtain ⟨⟨c0,c1,c2,c3,c4,c5,c6,c7,c8,c9⟩,-⟩ := HK.out _ HB4.out
 by_cases hf1 : 200 < t1.size
 ·have tf1 : decide ((200 : Int) < (t1.size : Int)) = true := decide_eq_true (by omega)
  go_wp2_with fail
  go_ret
  exact ⟨rfl,(HK.out _ HB4.out).2⟩
 have tf1 : decide ((200 : Int) < (t1.size : Int)) = false := decide_eq_false (by omega)
 by_cases hf2 : 60 < m1
 ·have tf2 : decide ((60 : Int) < (m1 : Int)) = true := decide_eq_true (by omega)
  go_wp2_with fail
  go_ret
  exact ⟨rfl,(HK.out _ HB4.out).2⟩
 have tf2 : decide ((60 : Int) < (m1 : Int)) = false := decide_eq_false (by omega)
 by_cases hf3 : (okW wd1 && okS s1) = false
 ·rw [hf3] at hRi
  go_wp2_with fail
  refine (hRi _).mono ?_
  rintro e w5 ⟨rfl,hb5⟩
  have HB5 := boxed (below_step HB4.out (Nat.le_refl _) hb5)
  clear hb5
  go_wp2
  go_ret
  exact ⟨rfl,(HK.out _ HB5.out).2⟩
 have hf4 : (okW wd1 && okS s1) = true := by simpa using hf3
 rw [hf4] at hRi
 have hww : (1 ≤ wd1 ∧ wd1 ≤ 1073741824) ∧ okS s1 = true := by
  simp [okW] at hf4
  exact hf4
 have hcv : chkV wd1 s1 = 0 := by
  unfold chkV
  simp at hf4
  rw [if_pos hf4.1,if_pos hf4.2]
 obtain ⟨N,hN⟩ := It.cnt_ex t1
 have HN := boxed hN
 clear hN hf3 hf4
 go_wp2_with fail
 refine (hRi _).mono ?_
 rintro e w5 ⟨rfl,hb5⟩
 have HB5 := boxed (below_step HB4.out (Nat.le_refl _) hb5)
 have HT5 := boxed (HT4.out.below hb5)
 clear hb5 HT4 hRi c0 c1 c2 c3 c4 c5 c6 c7 c8 c9 tf1 tf2
 obtain ⟨⟨c0,c1,c2,c3,c4,c5,c6,c7,c8,c9⟩,-⟩ := HK.out _ HB5.out
 have hBu := It.refbuild_any (fun _ => True) ao0 n0 cap0 F0 w5 (HF0.out.below (HK.out _ HB5.out).2) (by unfold maxLen;omega) t1 N HN.out (by omega) ro1 m1 rc1 L1 Y1 (HR.out.below (HK.out _ HB5.out).2) (by unfold maxLen;omega)
 have HPa := boxed (fun (W : World) (hb : Below w5.heap.size w5 W) => by
  have := paragraph_any (rc := rc1) (width := wd1) (s := s1) (HT5.out.below hb) HGG.out hn32 HN.out (by omega) (HR.out.below (HK.out _ (below_step HB5.out (Nat.le_refl _) hb)).2) (by omega)
  exact this)
 unfold Stg.val at HPa
 by_cases hck : It.ck t1 N n0 m1 L1 Y1 = 0
 rotate_left
 ·have HCK := boxed hck
  have HPa2 : Box (∀ W,Below w5.heap.size w5 W → ∀ e w',ParP G n0 t1 N m1 L1 Y1 wd1 s1 W e w' → e = .returned (.tuple #[.slice none 0 0,.agg #[.slice none 0 0,.int .i64 0,.bool false],.int .i64 (It.ck t1 N n0 m1 L1 Y1)]) ∧ Below W.heap.size W w') := boxed (fun W hb e w' h => by
   obtain ⟨h1,h2⟩ := h
   rcases h2 with ⟨-,h2⟩ | ⟨h3,-⟩ | ⟨h3,-⟩
   ·exact ⟨h2,h1⟩
   ·exact absurd h3 hck
   ·exact absurd h3 hck)
  generalize It.ck t1 N n0 m1 L1 Y1 = V at *
  have dV : (V == 0) = false := by simp [hck]
  have dV2 : (V != 0) = true := by simp [hck]
  clear hck
  go_wp2_with fail
  refine hBu.mono ?_
  rintro e w6 ⟨⟨-,rfl⟩ | ⟨h1,-⟩,hb6⟩
  rotate_left
  ·exact absurd h1 HCK.out
  have HB6 := boxed hb6
  clear hBu c0 c1 c2 c3 c4 c5 c6 c7 c8 c9
  obtain ⟨⟨c0,c1,c2,c3,c4,c5,c6,c7,c8,c9⟩,-⟩ := HK.out _ (below_step HB5.out (Nat.le_refl _) hb6)
  clear hb6
  go_wp2_with fail
  refine (HPa.out _ HB6.out).mono ?_
  intro e w7 hp
  obtain ⟨rfl,hb7⟩ := HPa2.out _ HB6.out _ _ hp
  have HB7 := boxed (below_step HB5.out (Nat.le_refl _) (below_step HB6.out (Nat.le_refl _) hb7))
  have HB8 := boxed (fun o => HB7.out.alloc HB7.out.size o)
  clear hp hb7 HPa HPa2
  go_wp2_with fail
  go_ret
  exact ⟨rfl,(HK.out _ (HB8.out _)).2⟩
 obtain ⟨hRt,h0,-,hcr,hpr⟩ := It.ck_zero HN.out hck
 have hfit : Ru.lyf t1.size L1 Y1 0 m1 = (0,(t1.size : Int)) := by
  have := (runs_fit hn32 hcr m1 (Nat.le_refl _)).2
  rw [hpr] at this
  exact this
 obtain ⟨hrg,hch⟩ := itls_chn HGF.out t1 N m1 L1 Y1 hRt (by omega) h0
 have hit : (itls F0 n0 t1 N m1 L1 Y1).length = (It.fin F0 n0 t1 (fun a => It.sta L1 Y1 m1 0 (a : Nat)) N).length := by unfold itls;simp
 have hic : It.ics (It.fin F0 n0 t1 (fun a => It.sta L1 Y1 m1 0 (a : Nat)) N) = ics (itls F0 n0 t1 N m1 L1 Y1) := by unfold itls;rw [toI_ics]
 have hni : (itls F0 n0 t1 N m1 L1 Y1).length ≤ 802 := by
  have h1 := It.fin_len F0 n0 t1 (fun a => It.sta L1 Y1 m1 0 (a : Nat)) N
  have h2 : N ≤ t1.size := by have h1 := It.cnt_le t1 N hRt.1;have h2 := It.it_le t1 N;omega
  omega
 have HPa2 : Box (∀ W,Below w5.heap.size w5 W → ∀ e w',ParP G n0 t1 N m1 L1 Y1 wd1 s1 W e w' → ∃ bo bc tot l em go gc ls,e = .returned (.tuple #[.slice go l.length gc,.agg #[.slice bo l.length bc,.int .i64 tot,.bool em],.int .i64 0]) ∧
   Brk (nth (itls F0 n0 t1 N m1 L1 Y1)) (itls F0 n0 t1 N m1 L1 Y1).length wd1 s1 tot l em ∧ l ≠ [] ∧ w'.ownsRow W.heap.size 3 1 (.slice bo l.length bc) l.length (ncs (l.map (bkn (nth (itls F0 n0 t1 N m1 L1 Y1)) (itls F0 n0 t1 N m1 L1 Y1).length))) ∧
   LnsAt (fun b => W.heap.size ≤ b) w' go l.length (nthL ls) ∧ (∀ i,i < l.length → Laid (nth (itls F0 n0 t1 N m1 L1 Y1)) (itls F0 n0 t1 N m1 L1 Y1).length (l.map (bkn (nth (itls F0 n0 t1 N m1 L1 Y1)) (itls F0 n0 t1 N m1 L1 Y1).length)) t1 (Ru.exr L1 Y1 m1) F0 n0 wd1 i (nthL ls i)) ∧ Below W.heap.size W w') := boxed (fun W hb e w' h => by
  obtain ⟨h1,h2⟩ := h
  rcases h2 with ⟨h3,-⟩ | ⟨-,h3,-⟩ | ⟨-,-,bo,bc,c,l,em,ao,cap,ls,g1,g2,g3,g4,g5,g6⟩
  ·exact absurd hck h3
  ·exact absurd hcv h3
  ·rw [itls_like HLK.out] at g2 g4 g6
   exact ⟨bo,bc,c,l,em,ao,cap,ls,g1,g2,g3,g4,g5,fun i hi => laid_like HLK.out (g6 i hi),h1⟩)
 rw [← hit,hic,hck] at hBu
 generalize itls F0 n0 t1 N m1 L1 Y1 = IL at *
 obtain ⟨n,hn⟩ : ∃ n,IL.length = n := ⟨_,rfl⟩
 rw [hn] at hBu hrg hch hni HPa2
 have HNn := boxed hn
 have HCH := boxed hch
 have HFT := boxed hfit
 clear hck hcv hcr hpr hit hic hn hrg hch hfit
 go_wp2_with fail
 refine hBu.mono ?_
 rintro e w6 ⟨⟨h1,-⟩ | ⟨-,ia,ic,rfl,ho6⟩,hb6⟩
 ·exact absurd rfl h1
 have HB6 := boxed hb6
 have HI6 := boxed (own_its ho6 HNn.out)
 clear hBu c0 c1 c2 c3 c4 c5 c6 c7 c8 c9 ho6
 obtain ⟨⟨c0,c1,c2,c3,c4,c5,c6,c7,c8,c9⟩,-⟩ := HK.out _ (below_step HB5.out (Nat.le_refl _) hb6)
 have hn9 : n ≤ 802 := hni
 clear hb6
 go_wp2_with fail
 refine (HPa.out _ HB6.out).mono ?_
 intro e w7 hp
 obtain ⟨bo,bc,tot,l,em,go,gc,ls,rfl,hbrk,hlne,hbo,hgot,hlaid,hb7⟩ := HPa2.out _ HB6.out _ _ hp
 have hlm : (l.map (bkn (nth IL) n)).length = l.length := by simp
 have hwb := brk_wb hbrk hlne
 have hbl := hwb.len
 rw [hlm] at hbl
 have HBB := boxed (brk_best HCH.out.le HCH.out.ok hww.2 hbrk)
 have HWB := boxed hwb
 have HNA := boxed (own_nat hbo hlm)
 have HLD := boxed hlaid
 have HGO := boxed hgot
 have HB7 := boxed (below_step HB6.out (Nat.le_refl _) hb7)
 have HI7 := boxed (HI6.out.below hb7)
 have hsx : (Ru.exr L1 Y1 m1).length ≤ 400 := by
  have := (Ru.lyf_ok t1.size L1 Y1 0 (by omega) (by omega) m1 t1.size HFT.out).2.2.2.2
  omega
 clear hp hb7 hbo hgot hlaid hwb hbrk HPa HPa2 HI6 HB6 c0 c1 c2 c3 c4 c5 c6 c7 c8 c9
 obtain ⟨⟨c0,c1,c2,c3,c4,c5,c6,c7,c8,c9⟩,-⟩ := HK.out _ (below_step HB5.out (Nat.le_refl _) HB7.out)
 have hwz : w.heap.size < w7.heap.size := by have := World.block_lt_of_cell? w7 _ c0;simpa using this
 have hwn : w.heap.size ≠ w7.heap.size := by omega
 have HFa := boxed (fun (W : World) (hb : Below w7.heap.size w7 W) => fast_any (c := ic) (width := wd1) (s := s1) (HI7.out.below hb) HCH.out.le HCH.out.ok hww.1 hww.2 (bk_last (nth IL) n HCH.out.pos HCH.out.fo).1 em tot l HBB.out.1 HBB.out.2)
 obtain ⟨ll,hll⟩ : ∃ ll,l.length = ll := ⟨_,rfl⟩
 rw [hll] at hbl HGO HLD hlm HFa ⊢
 have HLM := boxed hlm
 clear hlm hll
 obtain ⟨W7,hW7,hBW,hNW⟩ : ∃ W7,w7.alloc (.cells #[.slice bo ll bc,.int .i64 tot,.bool em] 39) = W7 ∧ Below w7.heap.size w7 W7 ∧ W7.heap[w7.heap.size]? = some (.cells #[.slice bo ll bc,.int .i64 tot,.bool em] 39 (0,0)) := ⟨_,rfl,(Below.refl _ _).alloc (Nat.le_refl _) _,heap_alloc_new w7 _⟩
 have hfa := HFa.out _ hBW
 unfold Stg.val at hfa
 have y2 := hold hBW c2
 have y3 := hold hBW c3
 have y4 := hold hBW c4
 have y5 := hold hBW c5
 have y6 := hold hBW c6
 have y7 := hold hBW c7
 have y8 := hold hBW c8
 have y9 := hold hBW c9
 have HBW := boxed hBW
 have HNW := boxed hNW
 clear HFa hBW hNW c2 c3 c4 c5 c6 c7 c8 c9
 go_wp2_with fail
 refine hfa.mono ?_
 rintro e w8 ⟨fo,fc,rfl,hfN,hb8⟩
 have HB8 := boxed (HBW.out.trans (hb8.mono HBW.out.size))
 obtain ⟨W8,hW8,hB9,hN9⟩ : ∃ W8,w8.alloc (.cells #[.slice fo ll fc,.int .i64 tot,.bool em] 39) = W8 ∧ Below w8.heap.size w8 W8 ∧ W8.heap[w8.heap.size]? = some (.cells #[.slice fo ll fc,.int .i64 tot,.bool em] 39 (0,0)) := ⟨_,rfl,(Below.refl _ _).alloc (Nat.le_refl _) _,heap_alloc_new w8 _⟩
 have HB78 := boxed (HB8.out.trans (hB9.mono HB8.out.size))
 have hz8 : W7.heap.size ≤ w8.heap.size := hb8.size
 have hz7 : w7.heap.size < W7.heap.size := (Array.getElem?_eq_some_iff.1 HNW.out).1
 have hwm : w.heap.size ≠ w8.heap.size := by omega
 have hwl : w7.heap.size ≠ w8.heap.size := by omega
 have HF8 := boxed (hfN.below hB9)
 have HWs : Box (∀ W,Below W8.heap.size W8 W → Below w7.heap.size w7 W) := boxed (fun W hb => HB78.out.trans (hb.mono HB78.out.size))
 have HWw : Box (∀ W,Below W8.heap.size W8 W → Below w.heap.size w W) := boxed (fun W hb => (HK.out _ (below_step HB5.out (Nat.le_refl _) (below_step HB7.out (Nat.le_refl _) (HWs.out _ hb)))).2)
 have HSe : Box (∀ W,Below W8.heap.size W8 W → W.cell? ⟨w7.heap.size,0,none⟩ = some (.slice bo ll bc) ∧ W.cell? ⟨w7.heap.size,1,none⟩ = some (.int .i64 tot) ∧ W.cell? ⟨w7.heap.size,2,none⟩ = some (.bool em) ∧ W.cell? ⟨w8.heap.size,0,none⟩ = some (.slice fo ll fc) ∧ W.cell? ⟨w8.heap.size,1,none⟩ = some (.int .i64 tot) ∧ W.cell? ⟨w8.heap.size,2,none⟩ = some (.bool em) ∧ W.cell? ⟨w.heap.size,0,none⟩ = some (.string t1) ∧ W.cell? ⟨w.heap.size,1,none⟩ = some (.slice ro1 m1 rc1) ∧ W.cell? ⟨w.heap.size,2,none⟩ = some (.int .i64 wd1)) := boxed (fun W hb => by
  obtain ⟨⟨c0,c1,c2,-⟩,-⟩ := HK.out _ (below_step HB5.out (Nat.le_refl _) (below_step HB7.out (Nat.le_refl _) (HWs.out _ hb)))
  obtain ⟨⟨x0,x1,x2⟩,-⟩ := cells3 HNW.out
  obtain ⟨⟨y0,y1,y2⟩,-⟩ := cells3 hN9
  have hbx : Below W7.heap.size W7 W := (hb8.trans (hB9.mono hb8.size)).trans (hb.mono (Nat.le_trans hb8.size hB9.size))
  exact ⟨hold hbx x0,hold hbx x1,hold hbx x2,hold hb y0,hold hb y1,hold hb y2,c0,c1,c2⟩)
 have HDe : Box (Below W8.heap.size W8 W8.drew) := boxed (Below.refl _ _).drew
 have HSA := boxed (fun (W : World) (hb : Below W8.heap.size W8 W) => by
  have := same9_any _ _ bo fo (l.map (bkn (nth IL) n)) bc fc tot em W (HNA.out.below (HWs.out _ hb)) (HF8.out.below hb) (by rw [HLM.out];omega)
  rw [HLM.out] at this
  exact this)
 have HRL := boxed (fun (W : World) (hb : Below W8.heap.size W8 W) => by
  have := reflay_any (sc := cap0) (rc := rc1) (c := ic) (bc := fc) (tot := tot) (em := em) (width := wd1) (HF0.out.below (HWw.out _ hb)) (HR.out.below (HWw.out _ hb)) (by omega) HFT.out (HI7.out.below (HWs.out _ hb)) HWB.out HCH.out h0 (HF8.out.below hb) (by omega)
  rw [HLM.out] at this
  exact this)
 have HAl := boxed (fun (W : World) (hb : Below W8.heap.size W8 W) (S : Nat → Prop) (lo : Option Addr) (lcp : Nat) (A : Nat → Lne) (hA : LnsAt S W lo ll A) (hd : ∀ i,i < ll → Laid (nth IL) n (l.map (bkn (nth IL) n)) t1 (Ru.exr L1 Y1 m1) F0 n0 wd1 i (A i)) => alike_any _ S go lo ll gc lcp (nthL ls) A (HGO.out.below (HWs.out _ hb)) hA (fun i hi => ⟨laid_same (HLD.out i hi) (hd i hi),by have := laid_rn (HLD.out i hi);omega⟩) (by omega))
 clear hb8 hfN hB9 hN9 hfa HB8 HF0 HR HFT HI7 HNA HF8 HGO HB7 HK y2 y3 y4 y5 y6 y7 y8 y9
 obtain ⟨q0,q1,q2,q3,q4,q5,q6,q7,q8⟩ := HSe.out _ (Below.refl _ _)
 go_wp2_with fail
 refine (HSA.out _ (Below.refl _ _)).mono ?_
 rintro e wf ⟨rfl,hbf⟩
 have HBf := boxed hbf
 have hRL := HRL.out _ hbf
 clear hbf q0 q1 q2 q3 q4 q5 q6 q7 q8 HSA HRL
 obtain ⟨q0,q1,q2,q3,q4,q5,q6,q7,q8⟩ := HSe.out _ HBf.out
 go_wp2_with fail
 refine hRL.mono ?_
 rintro e wg ⟨lo,lcp,la,rfl,hla,hoa,hra,hda,hbg⟩
 have HBg := boxed (HBf.out.trans (hbg.mono HBf.out.size))
 have hAl := HAl.out wg HBg.out _ lo lcp (nthL la) (by have := own_lns (l := la) (ao := lo) (cap := lcp) (by rw [hla];exact hoa) (by rw [hla];exact hra);rw [hla] at this;exact this) hda
 clear hla hoa hra hda hbg hRL q0 q1 q2 q3 q4 q5 q6 q7 q8
 go_wp2_with fail
 refine hAl.mono ?_
 rintro e wh ⟨rfl,hbh⟩
 have HBh := boxed (HWw.out _ (HBg.out.trans (hbh.mono HBg.out.size)))
 clear hbh hAl
 go_wp2_with fail
 go_ret
 exact ⟨rfl,HBh.out⟩
theorem lifted (os : Os) (started : os.Started) (H : Type) (enc : TypeId × Value → H) :
  ReturnsInHanded {} Tryz.checked os 3 .any (Rows.topParagraphSpec.pre6 enc Tryz.prog Tryz.f3 Rows.topParagraphRow.domain false) (Rows.topParagraphSpec.post enc Tryz.prog Tryz.f3 false true false false) := by
 refine returnsInHanded_of_change_sized (C := Tryz.checked) own started (by kernel_rfl) Tryz.func3
  (ChangeSpec.witness6 (enc := enc) (C := Tryz.checked) false ⟨#[],#[.slice none 0 0,.agg #[.string ByteArray.empty,.slice none 0 0,.int .i64 0,.int .i64 0,.int .i64 0,.int .i64 0,.int .i64 0,.int .i64 0,.int .i64 0,.int .i64 0]],[]⟩ 8 (by kernel_rfl) (by kernel_rfl) (by kernel_rfl) (by kernel_rfl)) ?_
 intro W base args ds gs before hval0 hW hcnd hsz0 _
 have hval : ∀ (j : Nat) t v,Tryz.f3.params[j]? = some t → args[j]? = some v → Value.okWide Tryz.prog W .any base t v := hval0
 have hsz : (DataW.weightsEach Tryz.prog (Tryz.f3.params.toList ++ Rows.topParagraphSpec.plain.varTypes Tryz.prog) (ds ++ gs)).all (· ≤ reachBytes) = true := hsz0
 have hW' := hW
 obtain ⟨p,q,hA0,hV,rfl,hfz,hnd⟩ := hW
 have hA : DataW.TrodAll enc Tryz.prog W 0 (fun _ => true) true Tryz.f3.params.toList args.toList ds p := hA0
 rw [Tryz.params3] at hA hval hsz
 obtain ⟨v0,vs0,d0,ds0,p0,q0,hargs,rfl,rfl,h0,r0⟩ := trodAll_cons hA
 obtain ⟨v1,vs1,d1,ds1,p1,q1,rfl,rfl,rfl,h1,r1⟩ := trodAll_cons r0
 obtain ⟨rfl,rfl,rfl⟩ := trodAll_nil r1
 obtain rfl : args = #[v0,v1] := by cases args;simp_all
 obtain ⟨rfl,rfl⟩ := trodVars_none hV
 obtain ⟨ao0,n0,cap0,rfl⟩ := okWide_slice Tryz.underlying22 (hval 0 22 v0 rfl rfl)
 have k0 := h0
 have lt0 : ∀ x ∈ p0,x.block < W.heap.size := by obtain ⟨m,hm⟩ := k0;exact DataW.trod_lt m _ _ _ hm
 obtain ⟨hn0,-,F0,hF0⟩ : (n0 ≤ cap0 ∧ cap0 * 80 ≤ 140737488351232) ∧ (ao0 = none → n0 = 0 ∧ cap0 = 0) ∧ ∃ F,It.StysAt (fun _ => True) W ao0 n0 F := by
  obtain ⟨fuel,hf⟩ := k0
  exact It.open_styles hf (fun n hn => by simpa using List.all_eq_true.1 hsz _ (DataW.weights_mem_each (j := 0) rfl rfl n hn))
 have k1 := h1
 have lt1 : ∀ x ∈ p1,x.block < W.heap.size := by obtain ⟨m,hm⟩ := k1;exact DataW.trod_lt m _ _ _ hm
 obtain ⟨t1,ro1,m1,rc1,wd1,s1,L1,Y1,rfl,ht1,hm1,hr1,hs1⟩ : ∃ t ao n cap width s L Y,v1 = paraV t ao n cap width s ∧ t.size ≤ maxLen ∧ (n ≤ maxLen ∧ n ≤ cap) ∧ It.RunsAt W ao n L Y ∧ I64 width ∧ I64 s.t ∧ I64 s.l ∧ I64 s.a ∧ I64 s.d ∧ I64 s.z ∧ I64 s.o ∧ I64 s.i := by
  obtain ⟨fuel,hf⟩ := k1
  exact para_value hf
 clear hA0 hval0
 refine (walk W ao0 n0 cap0 F0 hn0 hF0 t1 ro1 m1 rc1 wd1 s1 L1 Y1 ht1 hm1 hr1 hs1).mono fun e W' ⟨he,hg⟩ => ?_
 subst he
 exact ⟨_,rfl,_,_,_,[],_,[],hW',trodAll_mk1 (shut_bool Tryz.underlying4 _),(trodAll_cons_mk (Below.trod laidOut (by kernel_rfl) (of_decide_eq_true (by kernel_rfl)) k0 hg lt0) (trodAll_cons_mk (Below.trod laidOut (by kernel_rfl) (of_decide_eq_true (by kernel_rfl)) k1 hg lt1) trodAll_mk0)),rfl,hg.frame _,fun h => by cases h⟩
theorem proved : Rows.TopParagraphSaid :=
 OpenClaim.holds_of_wide 3 Tryz.f3 rfl rfl rfl rfl rfl rfl rfl ⟨rfl,rfl,rfl,rfl,rfl⟩ rfl rfl rfl rfl rfl (by kernel_rfl) Tryz.func3 (by kernel_rfl)
  (of_decide_eq_true (by kernel_rfl)) (by unfold Func.isWrapper;first | (rw [if_pos (by decide +kernel)];kernel_rfl) | (rw [if_neg (by decide +kernel)];exact ⟨rfl,rfl⟩))
  (fun os started H enc _ => lifted os started H enc)
#print axioms proved
end Go.Proofs.YtcjcdpfjnomehabGreat.topParagraph
