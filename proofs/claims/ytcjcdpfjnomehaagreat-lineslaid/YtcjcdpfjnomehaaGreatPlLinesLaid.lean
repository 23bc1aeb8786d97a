/-
  For any styles and any paragraph the statement LinesLaid of the program returns true: a paragraph has the lines that its breaks, its styles and its width ask for, or is refused for its first fault. No condition besides the statement's own.
-/
import Derived.Test.YtcjcdpfjnomehaaGreatRows
import Derived.WalkKit
import Derived.ProofKit
import Derived.OpenShut
import Derived.SizedLaws
import Derived.ShutString
import Derived.ChangeOld
import Derived.Below
import Derived.Test.YtcjcdpfjnomehaaGreatPl27
import Derived.Test.YtcjcdpfjnomehaaGreatPl38
import Derived.Test.YtcjcdpfjnomehaaGreatPl41
import Derived.Test.YtcjcdpfjnomehaaGreatPl42
import Derived.Test.YtcjcdpfjnomehaaGreatPl23
import Derived.Test.YtcjcdpfjnomehaaGreatPl44
import Derived.Test.YtcjcdpfjnomehaaGreatPl43
import Derived.Test.YtcjcdpfjnomehaaGreatPl35
import Derived.Test.YtcjcdpfjnomehaaGreatPl30
import Derived.Deep.RegionLaw
import Derived.Deep.DeepCutAuto
namespace Go.Proofs.YtcjcdpfjnomehaaGreat.linesLaid
set_option maxRecDepth 100000
set_option maxHeartbeats 40000000
open Go.ChangeShapes Go.WideShapes Go.ChangeAt Go.RowKit
open Go.ChangeMaps (open_string shut_string)
set_option linter.unusedVariables false
set_option linter.unusedSimpArgs false
theorem own:ownKnob Tryz.prog.godebug = none := by kernel_rfl
theorem laidOut:laidOutB Tryz.prog = true := by kernel_rfl
theorem walk (w:World) (ao0:Option Addr) (n0 cap0:Nat) (F0:Nat → It.Sty) (hn0:n0 ≤ cap0 ∧ cap0 * 80 ≤ 140737488351232) (hF0:It.StysAt (fun _ => True) w ao0 n0 F0) (t1:ByteArray) (ro1:Option Addr) (m1 rc1:Nat) (wd1:Int) (s1:Stg) (L1 Y1:Nat → Int) (ht1:t1.size ≤ maxLen) (hm1:m1 ≤ maxLen ∧ m1 ≤ rc1) (hr1:It.RunsAt w ro1 m1 L1 Y1) (hs1:I64 wd1 ∧ I64 s1.t ∧ I64 s1.l ∧ I64 s1.a ∧ I64 s1.d ∧ I64 s1.z ∧ I64 s1.o ∧ I64 s1.i) :
  Calls Tryz.prog 3 #[.slice ao0 n0 cap0,paraV t1 ro1 m1 rc1 wd1 s1] w fun e w' => e = .returned (.bool true) ∧ Below w.heap.size w w' := by
 obtain ⟨W0,hW0,hB0,hne0,hK⟩ := prc_at w t1 ro1 m1 rc1 wd1 s1
 have HA := boxed (awake10_any W0)
 have HK := boxed hK
 have HT := boxed (fun W (hb:Below W0.heap.size W0 W) => It.table_any (fun _ => True) ao0 n0 cap0 F0 W (hF0.below (hK W hb).2))
 have HFW := boxed (fun W => few10_any t1 ro1 m1 rc1 wd1 s1 W ht1 hm1.1)
 have HF0 := boxed hF0
 have HR := boxed hr1
 have HS1 := boxed hs1
 have hm1' := hm1
 unfold maxLen at hm1' ht1
 unfold paraV
 clear hF0 hr1 hK hs1 hB0 hm1 hn0
 go_enter Tryz.func3,Tryz.ntmps3
 go_wp2_with fail
 refine HA.out.mono ?_
 rintro e w3 ⟨rfl,hb3⟩
 have HB3 := boxed hb3
 clear hb3 HA hW0
 go_wp2_with fail
 refine (HT.out _ HB3.out).mono ?_
 rintro e w4 ⟨hor,hb4⟩
 have HB4 := boxed (below_step HB3.out (Nat.le_refl _) hb4)
 clear hb4 HT
 rcases hor with ⟨hne,rfl⟩ | ⟨hz,tb,G,rfl,hT,hL⟩
 ·clear hne
  go_wp2
  go_ret
  exact ⟨rfl,(HK.out _ HB4.out).2⟩
 obtain ⟨⟨hn1,hn32⟩,-,hgF⟩ := It.ckc_good F0 n0 hz
 have hgG:∀ i,i < n0 → It.flt (G i) = 0 := fun i hi => by rw [It.flt_like (hL i hi)];exact hgF i hi
 have HT4 := boxed hT
 have HLK := boxed hL
 have HGF := boxed hgF
 have HGG := boxed hgG
 clear hT hL hz hgF hgG
 obtain ⟨⟨c0,c1,c2,c3,c4,c5,c6,c7,c8,c9⟩,-⟩ := HK.out _ HB4.out
 by_cases hfew:t1.size ≤ 400 ∧ m1 ≤ 100
 rotate_left
 ·have hff:(decide (t1.size ≤ 400) && decide (m1 ≤ 100)) = false := by
   cases e:(decide (t1.size ≤ 400) && decide (m1 ≤ 100)) with
   | false => rfl
   | true => simp at e;exact absurd e hfew
  rw [hff] at HFW
  clear hff hfew
  go_wp2_with fail
  refine (HFW.out _).mono ?_
  rintro e w5 ⟨rfl,hb5⟩
  have HB5 := boxed (below_step HB4.out (Nat.le_refl _) hb5)
  clear hb5
  go_wp2
  go_ret
  exact ⟨rfl,(HK.out _ HB5.out).2⟩
 obtain ⟨hs1,hs2⟩ := hfew
 have hff:(decide (t1.size ≤ 400) && decide (m1 ≤ 100)) = true := by simp [hs1,hs2]
 rw [hff] at HFW
 clear hff
 obtain ⟨N,hN⟩ := It.cnt_ex t1
 have HN := boxed hN
 clear hN
 go_wp2_with fail
 refine (HFW.out _).mono ?_
 rintro e w5 ⟨rfl,hb5⟩
 have HB5 := boxed (below_step HB4.out (Nat.le_refl _) hb5)
 have HT5 := boxed (HT4.out.below hb5)
 clear hb5 HFW HT4 c0 c1 c2 c3 c4 c5 c6 c7 c8 c9
 obtain ⟨⟨c0,c1,c2,c3,c4,c5,c6,c7,c8,c9⟩,-⟩ := HK.out _ HB5.out
 have hPa := fun (W:World) (hb:Below w5.heap.size w5 W) => paragraph_any (rc := rc1) (width := wd1) (s := s1) (HT5.out.below hb) HGG.out hn32 HN.out (by omega) (HR.out.below (HK.out _ (below_step HB5.out (Nat.le_refl _) hb)).2) (by omega)
 unfold Stg.val at hPa
 go_wp2_with fail
 refine (hPa _ (Below.refl _ _)).mono ?_
 rintro e w6 ⟨hb6,hor⟩
 have HB6 := boxed (below_step HB5.out (Nat.le_refl _) hb6)
 have HT6 := boxed (HT5.out.below hb6)
 have hBu := fun (W:World) (hb:Below w6.heap.size w6 W) => It.refbuild_any (fun _ => True) ao0 n0 cap0 F0 W (HF0.out.below (HK.out _ (below_step HB6.out (Nat.le_refl _) hb)).2) (by unfold maxLen;omega) t1 N HN.out (by omega) ro1 m1 rc1 L1 Y1 (HR.out.below (HK.out _ (below_step HB6.out (Nat.le_refl _) hb)).2) (by unfold maxLen;omega)
 have HBu := boxed hBu
 clear hPa hb6 HT5 HB5 hBu c0 c1 c2 c3 c4 c5 c6 c7 c8 c9
 obtain ⟨⟨c0,c1,c2,c3,c4,c5,c6,c7,c8,c9⟩,-⟩ := HK.out _ HB6.out
 have hwz:w.heap.size < w6.heap.size := by have := World.block_lt_of_cell? w6 _ c0;simpa using this
 have hwn:w.heap.size ≠ w6.heap.size := by omega
 rcases hor with ⟨hck,rfl⟩ | ⟨hck,hchk,rfl⟩ | ⟨hck,hchk,bo,bc,tot,l,em,go,gc,ls,rfl,hbrk,hlne,hbo,hgot,hlaid⟩
 ·have HCK := boxed hck
  generalize It.ck t1 N n0 m1 L1 Y1 = V at *
  have dV:(V == 0) = false := by simp [hck]
  have dV2:(V != 0) = true := by simp [hck]
  clear hck
  go_wp2_with fail
  refine (HBu.out _ (by go_grown)).mono ?_
  rintro e w7 ⟨⟨-,rfl⟩ | ⟨h1,-⟩,hb7⟩
  rotate_left
  ·exact absurd h1 HCK.out
  have HB7 := boxed (below_step (HB6.out.alloc HB6.out.size _) (Nat.le_refl _) hb7)
  have k0 := kept_first hb7 0
  have k1 := kept_first hb7 1
  have k2 := kept_first hb7 2
  simp at k0 k1 k2
  clear hb7 HBu
  go_wp2_with fail
  go_ret
  exact ⟨rfl,(HK.out _ HB7.out).2⟩
 ·have dV:(chkV wd1 s1 == 0) = false := by simp [hchk]
  have hcp := chk_parts wd1 s1
  have hse := fun W => refsett_any s1 W
  generalize chkV wd1 s1 = V at *
  have HCK := boxed hck
  clear hck
  go_wp2_with fail
  refine (HBu.out _ (by go_grown)).mono ?_
  rintro e w7 ⟨⟨h1,-⟩ | ⟨-,ia,ic,rfl,-⟩,hb7⟩
  ·exact absurd HCK.out h1
  have HB7 := boxed (below_step (HB6.out.alloc HB6.out.size _) (Nat.le_refl _) hb7)
  obtain ⟨⟨d0,d1,d2,d3,d4,d5,d6,d7,d8,d9⟩,-⟩ := HK.out _ HB7.out
  clear hb7 HBu
  unfold Stg.val at hse
  rcases hcp with ⟨h1,rfl⟩ | ⟨h1,h2,rfl⟩ | ⟨-,-,h2⟩
  ·by_cases hw:wd1 < 1
   ·have tw1:decide (wd1 < 1) = true := decide_eq_true hw
    go_wp2_with fail
    go_ret
    exact ⟨rfl,(HK.out _ HB7.out).2⟩
   ·have tw1:decide (wd1 < 1) = false := decide_eq_false hw
    have hw2:1073741824 < wd1 := by
     unfold okW at h1
     simp at h1
     omega
    have tw2:decide (1073741824 < wd1) = true := decide_eq_true hw2
    go_wp2_with fail
    go_ret
    exact ⟨rfl,(HK.out _ HB7.out).2⟩
  ·have hw:1 ≤ wd1 ∧ wd1 ≤ 1073741824 := by unfold okW at h1;simp at h1;omega
   have tw1:decide (wd1 < 1) = false := decide_eq_false (by omega)
   have tw2:decide (1073741824 < wd1) = false := decide_eq_false (by omega)
   rw [h2] at hse
   go_wp2_with fail
   refine (hse _).mono ?_
   rintro e w8 ⟨rfl,hb8⟩
   have HB8 := boxed (below_step HB7.out (Nat.le_refl _) hb8)
   clear hb8
   go_wp2_with fail
   go_ret
   exact ⟨rfl,(HK.out _ HB8.out).2⟩
  ·exact absurd h2 hchk
 ·obtain ⟨hRt,h0,-,hcr,hpr⟩ := It.ck_zero HN.out hck
  have hfit:Ru.lyf t1.size L1 Y1 0 m1 = (0,(t1.size:Int)) := by
   have := (runs_fit hn32 hcr m1 (Nat.le_refl _)).2
   rw [hpr] at this
   exact this
  rw [itls_like HLK.out] at hbrk hbo hlaid
  obtain ⟨hrg,hch⟩ := itls_chn HGF.out t1 N m1 L1 Y1 hRt (by omega) h0
  have hww:(1 ≤ wd1 ∧ wd1 ≤ 1073741824) ∧ okS s1 = true := by
   rcases chk_parts wd1 s1 with ⟨-,h⟩ | ⟨-,-,h⟩ | ⟨h1,h2,-⟩
   ·omega
   ·omega
   ·unfold okW at h1;simp at h1;exact ⟨h1,h2⟩
  have hse := fun W => refsett_any s1 W
  rw [hww.2] at hse
  have hit:(itls F0 n0 t1 N m1 L1 Y1).length = (It.fin F0 n0 t1 (fun a => It.sta L1 Y1 m1 0 (a:Nat)) N).length := by unfold itls;simp
  have hic:It.ics (It.fin F0 n0 t1 (fun a => It.sta L1 Y1 m1 0 (a:Nat)) N) = ics (itls F0 n0 t1 N m1 L1 Y1) := by unfold itls;rw [toI_ics]
  have hni:(itls F0 n0 t1 N m1 L1 Y1).length ≤ 802 := by
   have h1 := It.fin_len F0 n0 t1 (fun a => It.sta L1 Y1 m1 0 (a:Nat)) N
   have h2:N ≤ t1.size := by have h1 := It.cnt_le t1 N hRt.1;have h2 := It.it_le t1 N;omega
   omega
  rw [← hit,hic,hck] at HBu
  generalize itls F0 n0 t1 N m1 L1 Y1 = IL at *
  obtain ⟨n,hn⟩:∃ n,IL.length = n := ⟨_,rfl⟩
  rw [hn] at HBu hrg hch hbrk hbo hlaid hni
  have HNn := boxed hn
  have hwb := brk_wb hbrk hlne
  have hbl := hwb.len
  have hlm:(l.map (bkn (nth IL) n)).length = l.length := by simp
  rw [hlm] at hbl
  have HBB := boxed (brk_best hch.le hch.ok hww.2 hbrk)
  have HLt := boxed (brk_row hbrk).1
  have HWB := boxed hwb
  have HCH := boxed hch
  have HRG := boxed hrg
  have HFT := boxed hfit
  have hlp:0 < l.length := List.length_pos_iff.2 hlne
  have hNA := own_nat hbo hlm
  have hcap := own_cap10 hbo
  have HLD := boxed (fun i hi => laid_like HLK.out (hlaid i hi))
  have HGO := boxed hgot
  have HBR := boxed hbrk
  clear hck hchk hcr hpr hit hic hn hwb hlaid hgot hrg hch hfit hbrk
  obtain ⟨ll,hll⟩:∃ ll,l.length = ll := ⟨_,rfl⟩
  rw [hll] at hbl hlp hcap HGO HLD hlm ⊢
  have HLL := boxed hll
  have HLM := boxed hlm
  obtain ⟨W6,hW6,hBW,hNW⟩:∃ W6,w6.alloc (.cells #[.slice bo ll bc,.int .i64 tot,.bool em] 35) = W6 ∧ Below w6.heap.size w6 W6 ∧ W6.heap[w6.heap.size]? = some (.cells #[.slice bo ll bc,.int .i64 tot,.bool em] 35 (0,0)) := ⟨_,rfl,(Below.refl _ _).alloc (Nat.le_refl _) _,heap_alloc_new w6 _⟩
  have HNA := boxed (hNA.below hBW)
  have HGW := boxed (HGO.out.below hBW)
  have HT7 := boxed (HT6.out.below hBW)
  have HBW := boxed (below_step HB6.out (Nat.le_refl _) hBW)
  have hbs := HBu.out _ hBW
  have HXX:Box (∀ W,Below W6.heap.size W6 W → (W.cell? ⟨w6.heap.size,0,none⟩ = some (.slice bo ll bc) ∧ W.cell? ⟨w6.heap.size,1,none⟩ = some (.int .i64 tot) ∧ W.cell? ⟨w6.heap.size,2,none⟩ = some (.bool em)) ∧ PrcAt W w.heap.size t1 ro1 m1 rc1 wd1 s1 ∧ Below w.heap.size w W) := boxed (fun W hb => ⟨⟨hold hb (cell_of_row _ _ _ _ _ _ hNW),hold hb (cell_of_row _ _ _ _ _ _ hNW),hold hb (cell_of_row _ _ _ _ _ _ hNW)⟩,HK.out _ (below_step HBW.out (Nat.le_refl _) hb)⟩)
  have y1 := hold hBW c0
  have y2 := hold hBW c1
  unfold Stg.val at hse
  clear hll hlm hbo hNA HGO HT6 HBu HB6 hBW hNW hwz hwn c2 c3 c4 c5 c6 c7 c8 c9
  go_wp2_with fail
  refine hbs.mono ?_
  rintro e w7 ⟨⟨h1,-⟩ | ⟨-,ia,ic,rfl,ho7⟩,hb7⟩
  ·exact absurd rfl h1
  have HB7 := boxed hb7
  have HIt := boxed (own_its ho7 HNn.out)
  have hn9:n ≤ 802 := hni
  obtain ⟨⟨r0,r1,r2⟩,⟨d0,d1,d2,d3,d4,d5,d6,d7,d8,d9⟩,-⟩ := HXX.out _ hb7
  have tw1:decide (wd1 < 1) = false := decide_eq_false (by omega)
  have tw2:decide (1073741824 < wd1) = false := decide_eq_false (by omega)
  clear hb7 ho7 hbs y1 y2 hW6
  go_wp2_with fail
  refine (hse _).mono ?_
  rintro e w8 ⟨rfl,hb8⟩
  have HB8 := boxed (below_step HB7.out (Nat.le_refl _) hb8)
  have HI8 := boxed (HIt.out.below hb8)
  clear hb8 hse HIt r0 r1 r2 d0 d1 d2 d3 d4 d5 d6 d7 d8 d9 HB7
  obtain ⟨⟨r0,r1,r2⟩,⟨d0,d1,d2,d3,d4,d5,d6,d7,d8,d9⟩,-⟩ := HXX.out _ HB8.out
  have hN8 := nat_ints (HNA.out.below HB8.out) (fun k hk => by
   rw [HLM.out] at hk
   have := HWB.out.lt k (by rw [HLM.out];exact hk)
   omega)
  rw [HLM.out] at hN8
  have hpr := price_any (S := _) (c := ic) (xc := bc) (width := wd1) (s := s1) HI8.out HCH.out.le HCH.out.ok hww.1 hww.2 em hN8 (by omega)
  have HPW:Box (∀ T ok,Prc (PX (nth IL) n wd1 s1 em) (nth IL) n (fun k => ((l.map (bkn (nth IL) n)).getD k 0:Nat)) ll T ok → ok = true ∧ T = tot) := boxed (fun T ok h => prc_way rfl h HLL.out (fun k hk => by rw [map_getD l _ k (by rw [HLL.out];exact hk)]) HBB.out.1.1)
  unfold Stg.val at hpr
  clear hN8
  go_wp2_with fail
  refine hpr.mono ?_
  rintro e w9 ⟨T,ok,rfl,hprc,hb9⟩
  obtain ⟨rfl,hTt⟩ := HPW.out _ _ hprc
  have hTt' := hTt.symm
  subst hTt'
  clear hTt
  have HB9 := boxed (below_step HB8.out (Nat.le_refl _) hb9)
  have HI9 := boxed (HI8.out.below hb9)
  clear hb9 hprc HPW hpr HI8 HB8 r0 r1 r2 d0 d1 d2 d3 d4 d5 d6 d7 d8 d9
  obtain ⟨⟨r0,r1,r2⟩,⟨d0,d1,d2,d3,d4,d5,d6,d7,d8,d9⟩,-⟩ := HXX.out _ HB9.out
  have HS9:Box (∀ W,Below w9.heap.size w9 W → W.cell? ⟨w6.heap.size,0,none⟩ = some (.slice bo ll bc) ∧ W.cell? ⟨w6.heap.size,1,none⟩ = some (.int .i64 tot) ∧ W.cell? ⟨w6.heap.size,2,none⟩ = some (.bool em) ∧ W.cell? ⟨w.heap.size,0,none⟩ = some (.string t1) ∧ W.cell? ⟨w.heap.size,1,none⟩ = some (.slice ro1 m1 rc1) ∧ W.cell? ⟨w.heap.size,2,none⟩ = some (.int .i64 wd1) ∧ W.cell? ⟨w.heap.size,3,none⟩ = some (.int .i64 s1.t) ∧ W.cell? ⟨w.heap.size,4,none⟩ = some (.int .i64 s1.l) ∧ W.cell? ⟨w.heap.size,5,none⟩ = some (.int .i64 s1.a) ∧ W.cell? ⟨w.heap.size,6,none⟩ = some (.int .i64 s1.d) ∧ W.cell? ⟨w.heap.size,7,none⟩ = some (.int .i64 s1.z) ∧ W.cell? ⟨w.heap.size,8,none⟩ = some (.int .i64 s1.o) ∧ W.cell? ⟨w.heap.size,9,none⟩ = some (.int .i64 s1.i)) := boxed (fun W hb => by
   obtain ⟨⟨r0,r1,r2⟩,⟨d0,d1,d2,d3,d4,d5,d6,d7,d8,d9⟩,-⟩ := HXX.out _ (below_step HB9.out (Nat.le_refl _) hb)
   exact ⟨r0,r1,r2,d0,d1,d2,d3,d4,d5,d6,d7,d8,d9⟩)
  have HBw:Box (∀ W,Below w9.heap.size w9 W → Below w.heap.size w W) := boxed (fun W hb => (HXX.out _ (below_step HB9.out (Nat.le_refl _) hb)).2.2)
  have HLG := boxed (fun (W:World) (hb:Below w9.heap.size w9 W) => reflegal8_any _ ia n ic (nth IL) W (HI9.out.below hb) HCH.out.le)
  have HRB := boxed (fun (W:World) (hb:Below w9.heap.size w9 W) => refbreak_any (c := ic) (width := wd1) (s := s1) (HI9.out.below hb) HCH.out.le HCH.out.ok hww.1 hww.2 (bk_last (nth IL) n HCH.out.pos HCH.out.fo).1)
  have HN9 := boxed (HNA.out.below HB9.out)
  have HB69 := boxed HB9.out
  have HSM:Box (∀ W em2 T l2 b2 c2,Below w9.heap.size w9 W → NAt (fun _ => True) W b2 (l2.map (bkn (nth IL) n)) → Best (PX (nth IL) n wd1 s1 em2) 0 (-1) T l2 → (em2 = true → Noway (PX (nth IL) n wd1 s1 false) 0 (-1)) → em = em2 ∧ tot = T ∧ l2.length = ll ∧ Calls Tryz.prog 17 #[.agg #[.slice bo ll bc,.int .i64 tot,.bool em],.agg #[.slice b2 ll c2,.int .i64 tot,.bool em]] W fun e w' => e = .returned (.bool true) ∧ Below W.heap.size W w') := boxed (fun W em2 T l2 b2 c2 hb hN2 hB2 hno2 => by
   obtain ⟨e1,e2,e3⟩ := best_one HBB.out.1 HBB.out.2 hB2 hno2
   subst e1;subst e2;subst e3
   refine ⟨rfl,rfl,HLL.out,?_⟩
   have hsm := same9_any _ _ bo b2 (l.map (bkn (nth IL) n)) bc c2 tot em W (HN9.out.below hb) hN2 (by rw [HLM.out];omega)
   rw [HLM.out] at hsm
   exact hsm)
  have hnb:(lgs (nth IL) n n).length ≤ 802 := by have := lgs_len (nth IL) n n;omega
  unfold Stg.val at HRB
  have HD0:Box (Below w9.heap.size w9 w9.drew) := boxed (Below.refl _ _).drew
  clear HXX HB9 HBW HK HNA
  go_upto_region 17 with (fail)
  clear r0 r1 r2 d0 d1 d2 d3 d4 d5 d6 d7 d8 d9
  go_cut [136] (fun v wx => v = .bool false ∧ Box (Below w9.heap.size w9 wx))
  case first =>
   by_cases h9:(lgs (nth IL) n n).length ≤ 9
   ·have t9:decide (((lgs (nth IL) n n).length:Int) ≤ 9) = true := decide_eq_true (by omega)
    have t9':decide ((lgs (nth IL) n n).length ≤ 9) = true := decide_eq_true h9
    generalize (lgs (nth IL) n n).length = nl at *
    go_region_held3 (fun W => W.cell? ⟨w6.heap.size,0,none⟩ = some (.slice bo ll bc) ∧ W.cell? ⟨w6.heap.size,1,none⟩ = some (.int .i64 tot) ∧ W.cell? ⟨w6.heap.size,2,none⟩ = some (.bool em) ∧ W.cell? ⟨w.heap.size,0,none⟩ = some (.string t1) ∧ W.cell? ⟨w.heap.size,1,none⟩ = some (.slice ro1 m1 rc1) ∧ W.cell? ⟨w.heap.size,2,none⟩ = some (.int .i64 wd1) ∧ W.cell? ⟨w.heap.size,3,none⟩ = some (.int .i64 s1.t) ∧ W.cell? ⟨w.heap.size,4,none⟩ = some (.int .i64 s1.l) ∧ W.cell? ⟨w.heap.size,5,none⟩ = some (.int .i64 s1.a) ∧ W.cell? ⟨w.heap.size,6,none⟩ = some (.int .i64 s1.d) ∧ W.cell? ⟨w.heap.size,7,none⟩ = some (.int .i64 s1.z) ∧ W.cell? ⟨w.heap.size,8,none⟩ = some (.int .i64 s1.o) ∧ W.cell? ⟨w.heap.size,9,none⟩ = some (.int .i64 s1.i))
     (first | with_reducible exact HS9.out _ HD0.out | with_reducible exact HS9.out _ HB7.out | with_reducible exact HS9.out _ HB8.out | with_reducible exact HS9.out _ HBF.out)
     (first
      | (go_at_call 16;with_reducible refine (HLG.out _ HD0.out).mono ?_;rintro e w7 ⟨v7,rfl,ho7,hb7⟩;obtain ⟨lo,lc,rfl⟩ := own_shape ho7;have HB7 := boxed (HD0.out.trans (hb7.mono HD0.out.size));clear hb7 ho7)
      | (go_at_call 18;with_reducible refine (HRB.out _ HB7.out).mono ?_;rintro e w8 ⟨b2,c2,T,em2,l2,rfl,hN2,hB2,hno2,hb8⟩;have HB8 := boxed (HB7.out.trans (hb8.mono HB7.out.size));obtain ⟨rfl,rfl,hl8,hsm⟩ := HSM.out w8 _ _ _ _ c2 HB8.out hN2 hB2 hno2;rw [hl8];clear hN2 hB2 hno2 hb8)
      | (go_at_call 17;with_reducible refine hsm.mono ?_;rintro e wF ⟨rfl,hbF⟩;have HBF := boxed (HB8.out.trans (hbF.mono HB8.out.size));clear hbF))
    go_wp2_with fail
    go_meet
    case rel => exact ⟨rfl,HBF⟩
   ·have t9:decide (((lgs (nth IL) n n).length:Int) ≤ 9) = false := decide_eq_false (by omega)
    have t9':decide ((lgs (nth IL) n n).length ≤ 9) = false := decide_eq_false h9
    generalize (lgs (nth IL) n n).length = nl at *
    refine wp_region_any (by kernel_rfl) ?_
    refine wpAny_take (i := 0) (v := .slice ia n ic) rfl (by kernel_rfl) (by kernel_rfl) (by kernel_rfl) (fun _ _ _ h => h) (Or.inl ⟨by rfl,by intro w;go_simp⟩) ?_
    change wpAny _ _ _ _ _ _ (Act.put _ (some 122) _) _
    refine wpAny_ready (rs := [1]) (by kernel_rfl) (by simp) ?_
    refine AllReady.cons rfl (fun K hK => ?_) AllReady.nil
    go_simp
    go_at_call 16
    refine (HLG.out _ HD0.out).mono ?_
    rintro e w7 ⟨v7,rfl,ho7,hb7⟩
    obtain ⟨lo,lc,rfl⟩ := own_shape ho7
    have HB7 := boxed (HD0.out.trans (hb7.mono HD0.out.size))
    clear hb7 ho7
    refine hK _ _ ?_
    clear hK
    refine wpAny_take (i := 2) (v := .int .i64 (nl:Int)) rfl (by kernel_rfl) (by kernel_rfl) (by kernel_rfl) (fun _ _ _ h => h) (Or.inl ⟨by rfl,by intro w;go_simp⟩) ?_
    change wpAny _ _ _ _ _ _ (Act.put _ (some 124) _) _
    refine wpAny_take (i := 3) (v := .bool false) rfl (by kernel_rfl) (by kernel_rfl) (by kernel_rfl) (fun _ _ _ h => h) (Or.inl ⟨by rfl,by intro w;go_simp⟩) ?_
    change wpAny _ _ _ _ _ _ (Act.put _ (some 125) _) _
    refine wpAny_take (i := 4) (v := .bool false) rfl (by kernel_rfl) (by kernel_rfl) (by kernel_rfl) (fun _ _ _ h => h) (Or.inl ⟨by rfl,by intro w;go_simp⟩) ?_
    change wpAny _ _ _ _ _ _ (Act.put _ (some 126) _) _
    refine wpAny_take (i := 6) (v := undef) rfl (by kernel_rfl) (by kernel_rfl) (by kernel_rfl) (fun _ _ _ h => h) (Or.inr ⟨by kernel_rfl,rfl⟩) ?_
    change wpAny _ _ _ _ _ _ (Act.put _ (some 128) _) _
    refine wpAny_take (i := 7) (v := undef) rfl (by kernel_rfl) (by kernel_rfl) (by kernel_rfl) (fun _ _ _ h => h) (Or.inr ⟨by kernel_rfl,rfl⟩) ?_
    change wpAny _ _ _ _ _ _ (Act.put _ (some 129) _) _
    refine wpAny_take (i := 5) (v := undef) rfl (by kernel_rfl) (by kernel_rfl) (by kernel_rfl) (fun _ _ _ h => h) (Or.inr ⟨by kernel_rfl,rfl⟩) ?_
    change wpAny _ _ _ _ _ _ (Act.put _ (some 127) _) _
    refine wpAny_take (i := 8) (v := undef) rfl (by kernel_rfl) (by kernel_rfl) (by kernel_rfl) (fun _ _ _ h => h) (Or.inr ⟨by kernel_rfl,rfl⟩) ?_
    change wpAny _ _ _ _ _ _ (Act.put _ (some 130) _) _
    refine wpAny_take (i := 9) (v := undef) rfl (by kernel_rfl) (by kernel_rfl) (by kernel_rfl) (fun _ _ _ h => h) (Or.inr ⟨by kernel_rfl,rfl⟩) ?_
    change wpAny _ _ _ _ _ _ (Act.put _ (some 131) _) _
    refine wpAny_take (i := 10) (v := undef) rfl (by kernel_rfl) (by kernel_rfl) (by kernel_rfl) (fun _ _ _ h => h) (Or.inr ⟨by kernel_rfl,rfl⟩) ?_
    change wpAny _ _ _ _ _ _ (Act.put _ (some 132) _) _
    refine wpAny_take (i := 11) (v := undef) rfl (by kernel_rfl) (by kernel_rfl) (by kernel_rfl) (fun _ _ _ h => h) (Or.inr ⟨by kernel_rfl,rfl⟩) ?_
    change wpAny _ _ _ _ _ _ (Act.put _ (some 133) _) _
    refine wpAny_take (i := 12) (v := undef) rfl (by kernel_rfl) (by kernel_rfl) (by kernel_rfl) (fun _ _ _ h => h) (Or.inr ⟨by kernel_rfl,rfl⟩) ?_
    change wpAny _ _ _ _ _ _ (Act.put _ (some 134) _) _
    refine wpAny_take (i := 13) (v := undef) rfl (by kernel_rfl) (by kernel_rfl) (by kernel_rfl) (fun _ _ _ h => h) (Or.inr ⟨by kernel_rfl,rfl⟩) ?_
    change wpAny _ _ _ _ _ _ (Act.put _ (some 135) _) _
    refine wpAny_take (i := 14) (v := .bool false) rfl (by kernel_rfl) (by kernel_rfl) (by kernel_rfl) (fun _ _ _ h => h) (Or.inl ⟨by rfl,by intro w;go_simp⟩) ?_
    change wpAny _ _ _ _ _ _ (Act.put _ (some 136) _) _
    refine wpAny_done (by kernel_rfl) ?_ _
    simp only [Act.put,List.setIfInBounds_toArray,List.set_cons_succ,List.set_cons_zero]
    go_wp2_with fail
    go_meet
    case rel => exact ⟨rfl,HB7⟩
  case rest =>
   obtain ⟨rfl,HBc⟩ := hcut
   have hsx:(Ru.exr L1 Y1 m1).length ≤ 400 := by
    have := (Ru.lyf_ok t1.size L1 Y1 0 (by omega) (by omega) m1 t1.size HFT.out).2.2.2.2
    omega
   have hNw := new_any _ ia n ic (nth IL) wc (HI9.out.below HBc.out) (by unfold maxLen;omega) HRG.out
   clear HLG HRB HSM HD0
   go_wp2_with fail
   refine hNw.mono ?_
   rintro e wd ⟨pb,rfl,hP,hbd⟩
   have HBd := boxed (below_step HBc.out (Nat.le_refl _) hbd)
   have HPd := boxed hP
   obtain ⟨r0,r1,r2,d0,d1,d2,-⟩ := HS9.out _ HBd.out
   have hRL := reflay_any (sc := cap0) (rc := rc1) (c := ic) (bc := bc) (tot := tot) (em := em) (width := wd1) (HF0.out.below (HBw.out _ HBd.out)) (HR.out.below (HBw.out _ HBd.out)) (by omega) HFT.out (HI9.out.below HBd.out) HWB.out HCH.out h0 (HN9.out.below HBd.out) (by omega)
   rw [HLM.out] at hRL
   clear hNw hP hbd
   go_wp2_with fail
   refine hRL.mono ?_
   rintro e we ⟨wo,wcap,lw,rfl,hlw,how,hrw,hdw,hbe⟩
   have HBe := boxed (below_step HBd.out (Nat.le_refl _) hbe)
   have hWl:LnsAt (fun b => wd.heap.size ≤ b) we wo ll (nthL lw) := by
    have := own_lns (l := lw) (ao := wo) (cap := wcap) (by rw [hlw];exact how) (by rw [hlw];exact hrw)
    rw [hlw] at this
    exact this
   have HWl := boxed hWl
   have HDw := boxed hdw
   have HBde := boxed hbe
   clear hRL hlw how hrw hdw hbe hWl r0 r1 r2 d0 d1 d2
   have HSe:Box (∀ W,Below we.heap.size we W → W.cell? ⟨w6.heap.size,0,none⟩ = some (.slice bo ll bc) ∧ W.cell? ⟨w6.heap.size,1,none⟩ = some (.int .i64 tot) ∧ W.cell? ⟨w6.heap.size,2,none⟩ = some (.bool em) ∧ W.cell? ⟨w.heap.size,0,none⟩ = some (.string t1) ∧ W.cell? ⟨w.heap.size,1,none⟩ = some (.slice ro1 m1 rc1) ∧ W.cell? ⟨w.heap.size,2,none⟩ = some (.int .i64 wd1) ∧ W.cell? ⟨w.heap.size,3,none⟩ = some (.int .i64 s1.t) ∧ W.cell? ⟨w.heap.size,4,none⟩ = some (.int .i64 s1.l) ∧ W.cell? ⟨w.heap.size,5,none⟩ = some (.int .i64 s1.a) ∧ W.cell? ⟨w.heap.size,6,none⟩ = some (.int .i64 s1.d) ∧ W.cell? ⟨w.heap.size,7,none⟩ = some (.int .i64 s1.z) ∧ W.cell? ⟨w.heap.size,8,none⟩ = some (.int .i64 s1.o) ∧ W.cell? ⟨w.heap.size,9,none⟩ = some (.int .i64 s1.i)) := boxed (fun W hb => HS9.out _ (below_step HBe.out (Nat.le_refl _) hb))
   have HDe:Box (Below we.heap.size we we.drew) := boxed (Below.refl _ _).drew
   have HLy := boxed (fun (W:World) (hb:Below we.heap.size we W) => by
    have hb9 := below_step HBe.out (Nat.le_refl _) hb
    have hbd := below_step HBde.out (Nat.le_refl _) hb
    have := lay10_any (rc := rc1) (bc := bc) (tot := tot) (em := em) (width := wd1) ((HT7.out.below HB69.out).below hb9) (HR.out.below (HBw.out _ hb9)) (by omega) HFT.out (HPd.out.below hbd) HWB.out HCH.out h0 (HN9.out.below hb9) (by rw [HLM.out];exact hcap) (by omega)
    rw [HLM.out] at this
    exact this)
   have HAl := boxed (fun (W:World) (hb:Below we.heap.size we W) (S:Nat → Prop) (lo:Option Addr) (lcp:Nat) (A:Nat → Lne) (hA:LnsAt S W lo ll A) (hd:∀ i,i < ll → Laid (nth IL) n (l.map (bkn (nth IL) n)) t1 (Ru.exr L1 Y1 m1) F0 n0 wd1 i (A i)) => alike_any S _ lo wo ll lcp wcap A (nthL lw) hA (HWl.out.below hb) (fun i hi => ⟨laid_same (hd i hi) (HDw.out i hi),by have := laid_rn (hd i hi);omega⟩) (by omega))
   obtain ⟨r0,r1,r2,d0,d1,d2,-⟩ := HSe.out _ (Below.refl _ _)
   go_wp2_with fail
   refine (HLy.out _ (Below.refl _ _)).mono ?_
   rintro e wf ⟨lo,lcp,la,rfl,hla,hoa,hra,hda,hbf⟩
   have HBf := boxed hbf
   have hAl := HAl.out wf HBf.out _ lo lcp (nthL la) (by have := own_lns (l := la) (ao := lo) (cap := lcp) (by rw [hla];exact hoa) (by rw [hla];exact hra);rw [hla] at this;exact this) (fun i hi => laid_like HLK.out (hda i hi))
   clear hla hoa hra hda hbf r0 r1 r2 d0 d1 d2
   go_wp2_with fail
   refine hAl.mono ?_
   rintro e wg ⟨rfl,hbg⟩
   have HBg := boxed (HBf.out.trans (hbg.mono HBf.out.size))
   clear hbg
   clear HLy hAl HDe
   have HSg:Box (∀ W,Below wg.heap.size wg W → W.cell? ⟨w6.heap.size,0,none⟩ = some (.slice bo ll bc) ∧ W.cell? ⟨w6.heap.size,1,none⟩ = some (.int .i64 tot) ∧ W.cell? ⟨w6.heap.size,2,none⟩ = some (.bool em) ∧ W.cell? ⟨w.heap.size,0,none⟩ = some (.string t1) ∧ W.cell? ⟨w.heap.size,1,none⟩ = some (.slice ro1 m1 rc1) ∧ W.cell? ⟨w.heap.size,2,none⟩ = some (.int .i64 wd1) ∧ W.cell? ⟨w.heap.size,3,none⟩ = some (.int .i64 s1.t) ∧ W.cell? ⟨w.heap.size,4,none⟩ = some (.int .i64 s1.l) ∧ W.cell? ⟨w.heap.size,5,none⟩ = some (.int .i64 s1.a) ∧ W.cell? ⟨w.heap.size,6,none⟩ = some (.int .i64 s1.d) ∧ W.cell? ⟨w.heap.size,7,none⟩ = some (.int .i64 s1.z) ∧ W.cell? ⟨w.heap.size,8,none⟩ = some (.int .i64 s1.o) ∧ W.cell? ⟨w.heap.size,9,none⟩ = some (.int .i64 s1.i)) := boxed (fun W hb => HSe.out _ (below_step HBg.out (Nat.le_refl _) hb))
   have HDg:Box (Below wg.heap.size wg wg.drew) := boxed (Below.refl _ _).drew
   have HCu := boxed (fun (W:World) (hb:Below wg.heap.size wg W) => cuts_len (lc := bc) (HPd.out.below (below_step HBde.out (Nat.le_refl _) (below_step HBg.out (Nat.le_refl _) hb))) HWB.out HCH.out (HN9.out.below (below_step HBe.out (Nat.le_refl _) (below_step HBg.out (Nat.le_refl _) hb))) HLM.out hcap)
   have HRc := boxed (fun (W:World) (hb:Below wg.heap.size wg W) => refcuts_len (c := ic) (lc := bc) (HI9.out.below (below_step HBe.out (Nat.le_refl _) (below_step HBg.out (Nat.le_refl _) hb))) HWB.out HCH.out (HN9.out.below (below_step HBe.out (Nat.le_refl _) (below_step HBg.out (Nat.le_refl _) hb))) HLM.out)
   clear HSe
   go_wp2_with fail
   go_region_held3 (fun W => W.cell? ⟨w6.heap.size,0,none⟩ = some (.slice bo ll bc) ∧ W.cell? ⟨w6.heap.size,1,none⟩ = some (.int .i64 tot) ∧ W.cell? ⟨w6.heap.size,2,none⟩ = some (.bool em) ∧ W.cell? ⟨w.heap.size,0,none⟩ = some (.string t1) ∧ W.cell? ⟨w.heap.size,1,none⟩ = some (.slice ro1 m1 rc1) ∧ W.cell? ⟨w.heap.size,2,none⟩ = some (.int .i64 wd1) ∧ W.cell? ⟨w.heap.size,3,none⟩ = some (.int .i64 s1.t) ∧ W.cell? ⟨w.heap.size,4,none⟩ = some (.int .i64 s1.l) ∧ W.cell? ⟨w.heap.size,5,none⟩ = some (.int .i64 s1.a) ∧ W.cell? ⟨w.heap.size,6,none⟩ = some (.int .i64 s1.d) ∧ W.cell? ⟨w.heap.size,7,none⟩ = some (.int .i64 s1.z) ∧ W.cell? ⟨w.heap.size,8,none⟩ = some (.int .i64 s1.o) ∧ W.cell? ⟨w.heap.size,9,none⟩ = some (.int .i64 s1.i))
    (first | with_reducible exact HSg.out _ HDg.out | with_reducible exact HSg.out _ HBh.out | with_reducible exact HSg.out _ HBi.out)
    (first
     | (go_at_call 23;with_reducible refine (HCu.out _ HDg.out).mono ?_;rintro e wh ⟨ca,cc,rfl,hca,hbh⟩;have HBh := boxed (HDg.out.trans (hbh.mono HDg.out.size));have HCa := boxed hca;clear hca hbh)
     | (go_at_call 24;with_reducible refine (HRc.out _ HBh.out).mono ?_;rintro e wi ⟨vi,rfl,hoi,hbi⟩;obtain ⟨ea,ec,rfl⟩ := own_shape hoi;have HBi := boxed (HBh.out.trans (hbi.mono HBh.out.size));have HEa := boxed (own_nat hoi (by simp));have HCi := boxed (HCa.out.below hbi);clear hoi hbi))
   have hlr:((List.range ll).map (lnC (nth IL) n (l.map (bkn (nth IL) n)) t1.size)).length = ll := by simp
   obtain ⟨cg,hce,-,hcg⟩ := HCi.out.form (by rw [hlr];exact hlp)
   obtain ⟨eg,hee,-,heg⟩ := HEa.out.form (by rw [hlr];exact hlp)
   subst hce
   subst hee
   rw [hlr] at hcg heg
   have HCG := boxed hcg
   have HEG := boxed heg
   have tll:((ll:Int) != (ll:Int)) = false := by simp
   clear HCu HRc HSg HCa HCi HEa hcg heg hlr
   go_wp2_with fail
   go_loopw [17] (fun vk wr => ∃ k:Nat,k ≤ ll ∧ vk = .int .i64 (k:Nat) ∧ Box (Below wi.heap.size wi wr)) (fun vk _ => ll - (intOf vk).toNat)
   case atStart => exact ⟨0,Nat.zero_le _,rfl,boxed (Below.refl _ _)⟩
   case round =>
    obtain ⟨k,hk,rfl,HKr⟩ := hrel
    by_cases hlt:k < ll
    ·have x0 := hold HKr.out (HCG.out k hlt)
     have x1 := hold HKr.out (HEG.out k hlt)
     have hlt2:(k:Int) < (ll:Int) := by omega
     generalize ((List.range ll).map (lnC (nth IL) n (l.map (bkn (nth IL) n)) t1.size)).getD k 0 = xx at *
     have txx:((xx:Int) != (xx:Int)) = false := by simp
     have hun:undef = Value.tuple #[] := rfl
     go_wp2_with fail
     go_quiet (fail)
     clear hun
     have HK2:Box (Below wi.heap.size wi (wr.drewN nq)) := boxed (HKr.out.trans (bel_drewN _ _ _))
     go_wp2_with fail
     go_roundw
     case rel => exact ⟨k + 1,by omega,by go_num,HK2⟩
     case measure => simp [intOf];omega
    ·obtain rfl:ll = k := by omega
     have hbA := below_step HBi.out (Nat.le_refl _) HKr.out
     have hbB := below_step HBg.out (Nat.le_refl _) hbA
     have hal := HAl.out wr hbB _ go gc (nthL ls) (HGW.out.below (below_step HB69.out (Nat.le_refl _) (below_step HBe.out (Nat.le_refl _) hbB))) HLD.out
     have HBf2 := boxed (below_step HBe.out (Nat.le_refl _) hbB)
     go_wp2_with fail
     refine hal.mono ?_
     rintro e wz ⟨rfl,hbz⟩
     have HBz := boxed (HBw.out _ (below_step HBf2.out (Nat.le_refl _) hbz))
     clear hbz hal
     go_wp2_with fail
     go_ret
     exact ⟨rfl,HBz.out⟩
theorem lifted (os:Os) (started:os.Started) (H:Type) (enc:TypeId × Value → H) :
  ReturnsInHanded {} Tryz.checked os 3 .any (Rows.linesLaidSpec.pre6 enc Tryz.prog Tryz.f3 Rows.linesLaidRow.domain false) (Rows.linesLaidSpec.post enc Tryz.prog Tryz.f3 false true false false) := by
 refine returnsInHanded_of_change_sized (C := Tryz.checked) own started (by kernel_rfl) Tryz.func3
  (ChangeSpec.witness6 (enc := enc) (C := Tryz.checked) false ⟨#[],#[.slice none 0 0,.agg #[.string ByteArray.empty,.slice none 0 0,.int .i64 0,.int .i64 0,.int .i64 0,.int .i64 0,.int .i64 0,.int .i64 0,.int .i64 0,.int .i64 0]],[]⟩ 8 (by kernel_rfl) (by kernel_rfl) (by kernel_rfl) (by kernel_rfl)) ?_
 intro W base args ds gs before hval0 hW hcnd hsz0 _
 have hval:∀ (j:Nat) t v,Tryz.f3.params[j]? = some t → args[j]? = some v → Value.okWide Tryz.prog W .any base t v := hval0
 have hsz:(DataW.weightsEach Tryz.prog (Tryz.f3.params.toList ++ Rows.linesLaidSpec.plain.varTypes Tryz.prog) (ds ++ gs)).all (· ≤ reachBytes) = true := hsz0
 have hW' := hW
 obtain ⟨p,q,hA0,hV,rfl,hfz,hnd⟩ := hW
 have hA:DataW.TrodAll enc Tryz.prog W 0 (fun _ => true) true Tryz.f3.params.toList args.toList ds p := hA0
 rw [Tryz.params3] at hA hval hsz
 obtain ⟨v0,vs0,d0,ds0,p0,q0,hargs,rfl,rfl,h0,r0⟩ := trodAll_cons hA
 obtain ⟨v1,vs1,d1,ds1,p1,q1,rfl,rfl,rfl,h1,r1⟩ := trodAll_cons r0
 obtain ⟨rfl,rfl,rfl⟩ := trodAll_nil r1
 obtain rfl:args = #[v0,v1] := by cases args;simp_all
 obtain ⟨rfl,rfl⟩ := trodVars_none hV
 obtain ⟨ao0,n0,cap0,rfl⟩ := okWide_slice Tryz.underlying22 (hval 0 22 v0 rfl rfl)
 have k0 := h0
 have lt0:∀ x ∈ p0,x.block < W.heap.size := by obtain ⟨m,hm⟩ := k0;exact DataW.trod_lt m _ _ _ hm
 obtain ⟨hn0,-,F0,hF0⟩:(n0 ≤ cap0 ∧ cap0 * 80 ≤ 140737488351232) ∧ (ao0 = none → n0 = 0 ∧ cap0 = 0) ∧ ∃ F,It.StysAt (fun _ => True) W ao0 n0 F := by
  obtain ⟨fuel,hf⟩ := k0
  exact It.open_styles hf (fun n hn => by simpa using List.all_eq_true.1 hsz _ (DataW.weights_mem_each (j := 0) rfl rfl n hn))
 have k1 := h1
 have lt1:∀ x ∈ p1,x.block < W.heap.size := by obtain ⟨m,hm⟩ := k1;exact DataW.trod_lt m _ _ _ hm
 obtain ⟨t1,ro1,m1,rc1,wd1,s1,L1,Y1,rfl,ht1,hm1,hr1,hs1⟩:∃ t ao n cap width s L Y,v1 = paraV t ao n cap width s ∧ t.size ≤ maxLen ∧ (n ≤ maxLen ∧ n ≤ cap) ∧ It.RunsAt W ao n L Y ∧ I64 width ∧ I64 s.t ∧ I64 s.l ∧ I64 s.a ∧ I64 s.d ∧ I64 s.z ∧ I64 s.o ∧ I64 s.i := by
  obtain ⟨fuel,hf⟩ := k1
  exact para_value hf
 clear hA0 hval0
 refine (walk W ao0 n0 cap0 F0 hn0 hF0 t1 ro1 m1 rc1 wd1 s1 L1 Y1 ht1 hm1 hr1 hs1).mono fun e W' ⟨he,hg⟩ => ?_
 subst he
 exact ⟨_,rfl,_,_,_,[],_,[],hW',trodAll_mk1 (shut_bool Tryz.underlying4 _),(trodAll_cons_mk (Below.trod laidOut (by kernel_rfl) (of_decide_eq_true (by kernel_rfl)) k0 hg lt0) (trodAll_cons_mk (Below.trod laidOut (by kernel_rfl) (of_decide_eq_true (by kernel_rfl)) k1 hg lt1) trodAll_mk0)),rfl,hg.frame _,fun h => by cases h⟩
theorem proved:Rows.LinesLaidSaid :=
 OpenClaim.holds_of_wide 3 Tryz.f3 rfl rfl rfl rfl rfl rfl rfl ⟨rfl,rfl,rfl,rfl,rfl⟩ rfl rfl rfl rfl rfl (by kernel_rfl) Tryz.func3 (by kernel_rfl)
  (of_decide_eq_true (by kernel_rfl)) (by unfold Func.isWrapper;first | (rw [if_pos (by decide +kernel)];kernel_rfl) | (rw [if_neg (by decide +kernel)];exact ⟨rfl,rfl⟩))
  (fun os started H enc _ => lifted os started H enc)
#print axioms proved
end Go.Proofs.YtcjcdpfjnomehaaGreat.linesLaid
