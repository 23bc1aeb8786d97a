/-
  For any styles and any paragraph the statement LinesWide of the program returns true: a line's spaces, stretched or shrunk as it is told, make it as wide as it should be, unless it is the paragraph's last one, ends where it must, or was broken by the emergency's rule. No condition besides the statement's own.
-/
import Derived.Test.YtcjcdpfjnomehaaGreatRows
import Derived.WalkKit
import Derived.ProofKit
import Derived.OpenShut
import Derived.SizedLaws
import Derived.ShutString
import Derived.ChangeOld
import Derived.Below
import Derived.Test.YtcjcdpfjnomehaaGreatPw27
import Derived.Test.YtcjcdpfjnomehaaGreatPw38
import Derived.Test.YtcjcdpfjnomehaaGreatPw39
import Derived.Test.YtcjcdpfjnomehaaGreatPw40
import Derived.Test.YtcjcdpfjnomehaaGreatPw42
import Derived.Test.YtcjcdpfjnomehaaGreatPw20
import Derived.Deep.DeepCutAuto
namespace Go.Proofs.YtcjcdpfjnomehaaGreat.linesWide
open Go.ChangeShapes Go.WideShapes Go.ChangeAt Go.RowKit
open Go.ChangeMaps (open_string shut_string)
set_option linter.unusedVariables false
set_option linter.unusedSimpArgs false
theorem own : ownKnob Tryz.prog.godebug = none := by kernel_rfl
theorem laidOut : laidOutB Tryz.prog = true := by kernel_rfl
set_option maxRecDepth 100000 in
set_option maxHeartbeats 16000000 in
theorem walk (w : World) (ao0 : Option Addr) (n0 cap0 : Nat) (F0 : Nat → It.Sty) (hn0 : n0 ≤ cap0 ∧ cap0 * 80 ≤ 140737488351232) (hF0 : It.StysAt (fun _ => True) w ao0 n0 F0) (t1 : ByteArray) (ro1 : Option Addr) (m1 rc1 : Nat) (wd1 : Int) (s1 : Stg) (L1 Y1 : Nat → Int) (ht1 : t1.size ≤ maxLen) (hm1 : m1 ≤ maxLen ∧ m1 ≤ rc1) (hr1 : It.RunsAt w ro1 m1 L1 Y1) (hs1 : I64 wd1 ∧ I64 s1.t ∧ I64 s1.l ∧ I64 s1.a ∧ I64 s1.d ∧ I64 s1.z ∧ I64 s1.o ∧ I64 s1.i) :
    Calls Tryz.prog 8 #[.slice ao0 n0 cap0, paraV t1 ro1 m1 rc1 wd1 s1] w fun e w' => e = .returned (.bool true) ∧ Below w.heap.size w w' := by
  obtain ⟨W0, hW0, hB0, hne0, hK⟩ := prc_at w t1 ro1 m1 rc1 wd1 s1
  have HA := boxed (awake10_any W0)
  have HK := boxed hK
  have HT := boxed (fun W (hb : Below W0.heap.size W0 W) => It.table_any (fun _ => True) ao0 n0 cap0 F0 W (hF0.below (hK W hb).2))
  have HFW := boxed (fun W => few10_any t1 ro1 m1 rc1 wd1 s1 W ht1 hm1.1)
  have HF0 := boxed hF0
  have HR := boxed hr1
  have HS1 := boxed hs1
  have hm1' := hm1
  unfold maxLen at hm1' ht1
  unfold paraV
  clear hF0 hr1 hK hs1 hB0 hm1 hn0
  go_enter Tryz.func8, Tryz.ntmps8
  go_wp2_with fail
  refine HA.out.mono ?_
  rintro e w3 ⟨rfl, hb3⟩
  have HB3 := boxed hb3
  clear hb3 HA hW0
  go_wp2_with fail
  refine (HT.out _ HB3.out).mono ?_
  rintro e w4 ⟨hor, hb4⟩
  have HB4 := boxed (below_step HB3.out (Nat.le_refl _) hb4)
  clear hb4 HT
  rcases hor with ⟨hne, rfl⟩ | ⟨hz, tb, G, rfl, hT, hL⟩
  · clear hne
    go_wp2
    go_ret
    exact ⟨rfl, (HK.out _ HB4.out).2⟩
  obtain ⟨⟨hn1, hn32⟩, -, hgF⟩ := It.ckc_good F0 n0 hz
  have hgG : ∀ i, i < n0 → It.flt (G i) = 0 := fun i hi => by rw [It.flt_like (hL i hi)]; exact hgF i hi
  have HT4 := boxed hT
  have HLK := boxed hL
  have HGF := boxed hgF
  have HGG := boxed hgG
  clear hT hL hz hgF hgG
  obtain ⟨⟨c0, c1, c2, c3, c4, c5, c6, c7, c8, c9⟩, -⟩ := HK.out _ HB4.out
  by_cases hfew : t1.size ≤ 400 ∧ m1 ≤ 100
  rotate_left
  · have hff : (decide (t1.size ≤ 400) && decide (m1 ≤ 100)) = false := by
      cases e : (decide (t1.size ≤ 400) && decide (m1 ≤ 100)) with
      | false => rfl
      | true => simp at e; exact absurd e hfew
    rw [hff] at HFW
    clear hff hfew
    go_wp2_with fail
    refine (HFW.out _).mono ?_
    rintro e w5 ⟨rfl, hb5⟩
    have HB5 := boxed (below_step HB4.out (Nat.le_refl _) hb5)
    clear hb5
    go_wp2
    go_ret
    exact ⟨rfl, (HK.out _ HB5.out).2⟩
  obtain ⟨hs1, hs2⟩ := hfew
  have hff : (decide (t1.size ≤ 400) && decide (m1 ≤ 100)) = true := by simp [hs1, hs2]
  rw [hff] at HFW
  clear hff
  obtain ⟨N, hN⟩ := It.cnt_ex t1
  have HN := boxed hN
  clear hN
  go_wp2_with fail
  refine (HFW.out _).mono ?_
  rintro e w5 ⟨rfl, hb5⟩
  have HB5 := boxed (below_step HB4.out (Nat.le_refl _) hb5)
  have HT5 := boxed (HT4.out.below hb5)
  clear hb5 HFW HT4 c0 c1 c2 c3 c4 c5 c6 c7 c8 c9
  obtain ⟨⟨c0, c1, c2, c3, c4, c5, c6, c7, c8, c9⟩, -⟩ := HK.out _ HB5.out
  have hPa := fun (W : World) (hb : Below w5.heap.size w5 W) => paragraph_any (rc := rc1) (width := wd1) (s := s1) (HT5.out.below hb) HGG.out hn32 HN.out (by omega) (HR.out.below (HK.out _ (below_step HB5.out (Nat.le_refl _) hb)).2) (by omega)
  unfold Stg.val at hPa
  by_cases hwd : 16777216 < wd1
  · have tw : decide (16777216 < wd1) = true := decide_eq_true hwd
    clear hPa
    go_wp2_with fail
    go_ret
    exact ⟨rfl, (HK.out _ HB5.out).2⟩
  have tw : decide (16777216 < wd1) = false := decide_eq_false hwd
  go_wp2_with fail
  refine (hPa _ (Below.refl _ _)).mono ?_
  rintro e w6 ⟨hb6, hor⟩
  have HB6 := boxed (below_step HB5.out (Nat.le_refl _) hb6)
  have HBu := boxed (fun (W : World) (hb : Below w6.heap.size w6 W) => refitems10_any (fun _ => True) ao0 n0 cap0 F0 W (HF0.out.below (HK.out _ (below_step HB6.out (Nat.le_refl _) hb)).2) (by unfold maxLen; omega) t1 N HN.out (by omega) ro1 m1 rc1 L1 Y1 (HR.out.below (HK.out _ (below_step HB6.out (Nat.le_refl _) hb)).2) (by unfold maxLen; omega))
  clear hPa hb6 HT5 HB5 c0 c1 c2 c3 c4 c5 c6 c7 c8 c9 tw
  obtain ⟨⟨c0, c1, c2, c3, c4, c5, c6, c7, c8, c9⟩, -⟩ := HK.out _ HB6.out
  have hwz : w.heap.size < w6.heap.size := by have := World.block_lt_of_cell? w6 _ c0; simpa using this
  have hwn : w.heap.size ≠ w6.heap.size := by omega
  rcases hor with ⟨hck, rfl⟩ | ⟨hck, hchk, rfl⟩ | ⟨hck, hchk, bo, bc, tot, l, em, go, gc, ls, rfl, hbrk, hlne, hbo, hgot, hlaid⟩
  · have HCK := boxed hck
    generalize It.ck t1 N n0 m1 L1 Y1 = V at *
    have dV : (V == 0) = false := by simp [hck]
    have dV2 : (V != 0) = true := by simp [hck]
    clear hck
    go_wp2_with fail
    refine (HBu.out _ (by go_grown)).mono ?_
    rintro e w7 ⟨⟨-, rfl⟩ | ⟨h1, -⟩, hb7⟩
    rotate_left
    · exact absurd h1 HCK.out
    have HB7 := boxed (below_step (HB6.out.alloc HB6.out.size _) (Nat.le_refl _) hb7)
    clear hb7 HBu
    go_wp2_with fail
    go_ret
    exact ⟨rfl, (HK.out _ HB7.out).2⟩
  · have dV : (chkV wd1 s1 == 0) = false := by simp [hchk]
    have dV2 : (chkV wd1 s1 != 0) = true := by simp [hchk]
    generalize chkV wd1 s1 = V at *
    have HCK := boxed hck
    clear hck
    go_wp2_with fail
    refine (HBu.out _ (by go_grown)).mono ?_
    rintro e w7 ⟨⟨h1, -⟩ | ⟨-, ia, ic, rfl, -⟩, hb7⟩
    · exact absurd HCK.out h1
    have HB7 := boxed (below_step (HB6.out.alloc HB6.out.size _) (Nat.le_refl _) hb7)
    clear hb7 HBu
    generalize (It.fin F0 n0 t1 (fun a => It.sta L1 Y1 m1 0 (a : Nat)) N).length = fl at *
    go_wp2_with fail
    go_ret
    exact ⟨rfl, (HK.out _ HB7.out).2⟩
  · obtain ⟨hRt, h0, -, hcr, hpr⟩ := It.ck_zero HN.out hck
    have hfit : Ru.lyf t1.size L1 Y1 0 m1 = (0, (t1.size : Int)) := by
      have := (runs_fit hn32 hcr m1 (Nat.le_refl _)).2
      rw [hpr] at this
      exact this
    rw [itls_like HLK.out] at hbrk hbo hlaid
    obtain ⟨hrg, hch⟩ := itls_chn HGF.out t1 N m1 L1 Y1 hRt (by omega) h0
    have hww : (1 ≤ wd1 ∧ wd1 ≤ 1073741824) ∧ okS s1 = true := by
      rcases chk_parts wd1 s1 with ⟨-, h⟩ | ⟨-, -, h⟩ | ⟨h1, h2, -⟩
      · omega
      · omega
      · unfold okW at h1; simp at h1; exact ⟨h1, h2⟩
    have hit : (itls F0 n0 t1 N m1 L1 Y1).length = (It.fin F0 n0 t1 (fun a => It.sta L1 Y1 m1 0 (a : Nat)) N).length := by unfold itls; simp
    have hic : It.ics (It.fin F0 n0 t1 (fun a => It.sta L1 Y1 m1 0 (a : Nat)) N) = ics (itls F0 n0 t1 N m1 L1 Y1) := by unfold itls; rw [toI_ics]
    have hni : (itls F0 n0 t1 N m1 L1 Y1).length ≤ 802 := by
      have h1 := It.fin_len F0 n0 t1 (fun a => It.sta L1 Y1 m1 0 (a : Nat)) N
      have h2 : N ≤ t1.size := by have h1 := It.cnt_le t1 N hRt.1; have h2 := It.it_le t1 N; omega
      omega
    rw [← hit, hic] at HBu
    generalize itls F0 n0 t1 N m1 L1 Y1 = IL at *
    obtain ⟨n, hn⟩ : ∃ n, IL.length = n := ⟨_, rfl⟩
    rw [hn] at HBu hrg hch hbrk hbo hlaid hni
    have HNn := boxed hn
    have hwb := brk_wb hbrk hlne
    have hbl := hwb.len
    have hlm : (l.map (bkn (nth IL) n)).length = l.length := by simp
    rw [hlm] at hbl
    have hlp : 0 < l.length := List.length_pos_iff.2 hlne
    have hNA := own_nat hbo hlm
    have HCK := boxed hck
    have HLD := boxed (fun i hi => laid_like HLK.out (hlaid i hi))
    have HCH := boxed hch
    have HLt := boxed hwb.lt
    cases em with
    | true =>
      have HWW := boxed hww
      clear hck hchk hcr hpr hit hic hn hwb hlaid hgot hrg hch hfit hbrk hww hlm hbo hNA HLD
      generalize l.length = ll at *
      go_wp2_with fail
      refine (HBu.out _ (by go_grown)).mono ?_
      rintro e w7 ⟨⟨h1, -⟩ | ⟨-, ia, ic, rfl, -⟩, hb7⟩
      · exact absurd HCK.out h1
      have HB7 := boxed (below_step (HB6.out.alloc HB6.out.size _) (Nat.le_refl _) hb7)
      have k2 := kept_first hb7 2
      simp at k2
      clear hb7 HBu
      go_wp2_with fail
      go_ret
      exact ⟨rfl, (HK.out _ HB7.out).2⟩
    | false =>
    have hbe : Best (PT (nth IL) n wd1 s1 s1.t) 0 (-1) tot l := by
      rcases hbrk with ⟨-, h⟩ | ⟨h, -⟩
      · exact h
      · cases h
    have HWL := boxed (fun (hT : s1.t < 10000) k hk hf => wide_line hbe hT hch.le hch.ok (by omega) k hk hf)
    have HGO := boxed hgot
    clear hck hchk hcr hpr hit hic hn hwb hlaid hgot hrg hch hfit hbrk hbe
    obtain ⟨ll, hll⟩ : ∃ ll, l.length = ll := ⟨_, rfl⟩
    rw [hll] at hbl hlp HGO HLD hlm HWL ⊢
    have HLM := boxed hlm
    rw [hlm] at HLt
    obtain ⟨bs, hbs⟩ : ∃ bs, l.map (bkn (nth IL) n) = bs := ⟨_, rfl⟩
    rw [hbs] at HLM HLt HWL HLD hNA
    clear hlm hbs hll hbo
    obtain ⟨W6, hW6, hBW, hNW⟩ : ∃ W6, w6.alloc (.cells #[.slice bo ll bc, .int .i64 tot, .bool false] 35) = W6 ∧ Below w6.heap.size w6 W6 ∧ W6.heap[w6.heap.size]? = some (.cells #[.slice bo ll bc, .int .i64 tot, .bool false] 35 (0, 0)) := ⟨_, rfl, (Below.refl _ _).alloc (Nat.le_refl _) _, heap_alloc_new w6 _⟩
    have HNA := boxed (hNA.below hBW)
    have HGW := boxed (HGO.out.below hBW)
    have hbu := HBu.out _ hBW
    have HXX : Box (∀ W, Below W6.heap.size W6 W → (W.cell? ⟨w6.heap.size, 0, none⟩ = some (.slice bo ll bc) ∧ W.cell? ⟨w6.heap.size, 1, none⟩ = some (.int .i64 tot) ∧ W.cell? ⟨w6.heap.size, 2, none⟩ = some (.bool false)) ∧ PrcAt W w.heap.size t1 ro1 m1 rc1 wd1 s1 ∧ Below w.heap.size w W) := boxed (fun W hb => ⟨⟨hold hb (cell_of_row _ _ _ _ _ _ hNW), hold hb (cell_of_row _ _ _ _ _ _ hNW), hold hb (cell_of_row _ _ _ _ _ _ hNW)⟩, HK.out _ (below_step (below_step HB6.out (Nat.le_refl _) hBW) (Nat.le_refl _) hb)⟩)
    have y1 := hold hBW c0
    have y2 := hold hBW c1
    clear hNA HGO HBu HB6 hBW hNW hwz hwn c2 c3 c4 c5 c6 c7 c8 c9 HK HR HF0
    replace hW6 := boxed hW6
    go_upto_region 7 with (fail)
    rw [hW6.out]
    go_wp2_with fail
    refine hbu.mono ?_
    rintro e w7 ⟨⟨h1, -⟩ | ⟨-, ia, ic, rfl, ho7⟩, hb7⟩
    · exact absurd HCK.out h1
    have HB7 := boxed hb7
    have HIt := boxed (own_its ho7 HNn.out)
    obtain ⟨⟨r0, r1, r2⟩, ⟨d0, d1, d2, d3, d4, d5, d6, d7, d8, d9⟩, -⟩ := HXX.out _ hb7
    clear hb7 ho7 hbu y1 y2 hW6
    by_cases hT : 10000 ≤ s1.t
    · have tt : decide (10000 ≤ s1.t) = true := decide_eq_true hT
      go_wp2_with fail
      go_ret
      exact ⟨rfl, (HXX.out _ HB7.out).2.2⟩
    have tt : decide (10000 ≤ s1.t) = false := decide_eq_false hT
    have HWL2 := boxed (HWL.out (by omega))
    have HN7 := boxed (HNA.out.below HB7.out)
    have HG7 := boxed (HGW.out.below HB7.out)
    clear HWL HNA HGW
    go_wp2_with fail
    clear r0 r1 r2 d0 d1 d2 d3 d4 d5 d6 d7 d8 d9
    go_loopw [10, 11, 12, 13, 14] (fun vl vi _ _ _ wr => ∃ i : Nat, i ≤ ll ∧ vi = .int .i64 (i : Nat) ∧ vl = .int .i64 (lnA bs i) ∧ Box (Below w7.heap.size w7 wr)) (fun _ vi _ _ _ _ => ll - (intOf vi).toNat)
    case atStart => exact ⟨0, Nat.zero_le _, rfl, rfl, boxed (Below.refl _ _)⟩
    case round =>
      obtain ⟨i, hi, rfl, rfl, HB⟩ := hrel
      have HBF := boxed (HXX.out _ (below_step HB7.out (Nat.le_refl _) HB.out)).2.2
      by_cases hlt : i < ll
      · have hbb := below_step HB7.out (Nat.le_refl _) HB.out
        obtain ⟨⟨r0, -, -⟩, -⟩ := HXX.out _ hbb
        obtain ⟨bg, hbo, -, hbc⟩ := (HN7.out.below HB.out).form (by rw [HLM.out]; omega)
        have hk0 := hbc i (by rw [HLM.out]; exact hlt)
        have hkn := HLt.out i hlt
        subst hbo
        have HWh := boxed (fun (W : World) (hb : Below w7.heap.size w7 W) => whole_any _ ia n ic (nth IL) W (HIt.out.below hb) HCH.out.le HCH.out.ok (lnA bs i) (bs.getD i 0 : Nat))
        have HW2 := boxed (HWL2.out i hlt)
        have hld := HLD.out i hlt
        obtain ⟨-, gb, goff, hgo, -, g0, g1, g2, g3, -⟩ := (HG7.out.below HB.out) i hlt
        subst hgo
        rw [hld.num] at g2
        rw [hld.den] at g3
        obtain ⟨ib, ioff, hia, -, i0, i1, i2, i3, i4, i5, i6, i7, i8⟩ := (HIt.out.below HB.out) (bs.getD i 0) hkn
        subst hia
        have HNX := boxed (lnA_next (bs := bs) i)
        have hlt2 : (i : Int) < (ll : Int) := by omega
        have hkn2 : ((bs.getD i 0 : Nat) : Int) < (n : Int) := by omega
        unfold Sm.val at HWh
        have HLL : Box (ll ≤ 100000) := boxed (by omega)
        clear hbc hld g0 g1 HWL2 HLD
        generalize hS : lin (nth IL) n (lnA bs i) (bs.getD i 0 : Nat) = S at *
        clear hS
        generalize (setF S wd1).num = nu at *
        generalize (setF S wd1).den = de at *
        generalize hX : nth IL (bs.getD i 0) = X at *
        clear hX
        have HFo := boxed (fun W => refforced_any X W)
        unfold Itm.val at HFo
        generalize hkk : bs.getD i 0 = kk at *
        clear hkk
        go_wp2_with fail
        refine (HWh.out _ HB.out).mono ?_
        rintro e w8 ⟨rfl, hb8⟩
        have HB8 := boxed (below_step HB.out (Nat.le_refl _) hb8)
        replace i0 := hold hb8 i0
        replace i1 := hold hb8 i1
        replace i2 := hold hb8 i2
        replace i3 := hold hb8 i3
        replace i4 := hold hb8 i4
        replace i5 := hold hb8 i5
        replace i6 := hold hb8 i6
        replace i7 := hold hb8 i7
        replace i8 := hold hb8 i8
        replace g2 := hold hb8 g2
        replace g3 := hold hb8 g3
        obtain ⟨-, ⟨-, -, d2, -⟩, -⟩ := HXX.out _ (below_step HB7.out (Nat.le_refl _) HB8.out)
        clear hb8 HWh r0 hk0 hbb HBF
        go_upto_region 17 with (fail)
        obtain ⟨W8, hW8⟩ : ∃ W8, w8.alloc (.cells #[.int .i64 S.w, .int .i64 S.st, .int .i64 S.sh, .int .i64 S.f] 76) = W8 := ⟨_, rfl⟩
        have hba : Below w8.heap.size w8 W8 := by rw [← hW8]; exact (Below.refl _ _).alloc (Nat.le_refl _) _
        have s0 : W8.cell? ⟨w8.heap.size, 0, none⟩ = some (.int .i64 S.w) := by rw [← hW8]; exact cell_first _ _ _ _
        have s1' : W8.cell? ⟨w8.heap.size, 1, none⟩ = some (.int .i64 S.st) := by rw [← hW8]; exact cell_first _ _ _ _
        have s2 : W8.cell? ⟨w8.heap.size, 2, none⟩ = some (.int .i64 S.sh) := by rw [← hW8]; exact cell_first _ _ _ _
        have s3 : W8.cell? ⟨w8.heap.size, 3, none⟩ = some (.int .i64 S.f) := by rw [← hW8]; exact cell_first _ _ _ _
        rw [hW8]
        clear hW8
        replace i0 := hold hba i0
        replace i1 := hold hba i1
        replace i2 := hold hba i2
        replace i3 := hold hba i3
        replace i4 := hold hba i4
        replace i5 := hold hba i5
        replace i6 := hold hba i6
        replace i7 := hold hba i7
        replace i8 := hold hba i8
        replace g2 := hold hba g2
        replace g3 := hold hba g3
        replace d2 := hold hba d2
        have HBa := boxed (below_step HB8.out (Nat.le_refl _) hba)
        clear hba
        by_cases hf : 0 < S.f
        · have tf : decide (0 < S.f) = true := decide_eq_true hf
          clear HW2 hf
          go_wp2_with fail
          go_roundw
          case rel => exact ⟨i + 1, by omega, by go_num, by rw [HNX.out], HBa⟩
          case measure => simp [intOf]; omega
        have tf : decide (0 < S.f) = false := decide_eq_false hf
        have hid := HW2.out (by omega)
        have HID := boxed hid
        clear HW2 hf hid
        generalize hFo : forc X = fo at *
        clear hFo
        cases fo with
        | true =>
          go_wp2_with fail
          refine (HFo.out _).mono ?_
          rintro e w9 ⟨rfl, hb9⟩
          have HB9 := boxed (below_step HBa.out (Nat.le_refl _) hb9)
          clear hb9
          go_wp2_with fail
          go_roundw
          case rel => exact ⟨i + 1, by omega, by go_num, by rw [HNX.out], HB9⟩
          case measure => simp [intOf]; omega
        | false =>
          go_wp2_with fail
          refine (HFo.out _).mono ?_
          rintro e w9 ⟨rfl, hb9⟩
          have HB9 := boxed (below_step HBa.out (Nat.le_refl _) hb9)
          replace g2 := hold hb9 g2
          replace g3 := hold hb9 g3
          replace d2 := hold hb9 d2
          replace s0 := hold hb9 s0
          replace s1' := hold hb9 s1'
          replace s2 := hold hb9 s2
          clear hb9 HFo i0 i1 i2 i3 i4 i5 i6 i7 i8 s3
          by_cases hneg : nu < 0
          · have tn : decide (nu < 0) = true := decide_eq_true hneg
            have hq := wrap_same64 (S.w * de) (S.sh * nu) (wd1 * de) (by have := HID.out; rw [if_pos hneg] at this; exact this)
            clear hneg
            go_wp2_with fail
            go_quiet (fail)
            have HBz := boxed (HB9.out.trans (bel_drewN _ _ nq))
            go_wp2_with fail
            go_roundw
            case rel => exact ⟨i + 1, by omega, by go_num, by rw [HNX.out], HBz⟩
            case measure => simp [intOf]; omega
          · have tn : decide (nu < 0) = false := decide_eq_false hneg
            have hq := wrap_same64 (S.w * de) (S.st * nu) (wd1 * de) (by have := HID.out; rw [if_neg hneg] at this; exact this)
            clear hneg
            go_wp2_with fail
            go_quiet (fail)
            have HBz := boxed (HB9.out.trans (bel_drewN _ _ nq))
            go_wp2_with fail
            go_roundw
            case rel => exact ⟨i + 1, by omega, by go_num, by rw [HNX.out], HBz⟩
            case measure => simp [intOf]; omega
      · obtain rfl : ll = i := by omega
        go_wp2_with fail
        go_ret
        exact ⟨rfl, HBF.out⟩
set_option maxRecDepth 100000 in
theorem lifted (os : Os) (started : os.Started) (H : Type) (enc : TypeId × Value → H) :
    ReturnsInHanded {} Tryz.checked os 8 .any (Rows.linesWideSpec.pre6 enc Tryz.prog Tryz.f8 Rows.linesWideRow.domain false) (Rows.linesWideSpec.post enc Tryz.prog Tryz.f8 false true false false) := by
  refine returnsInHanded_of_change_sized (C := Tryz.checked) own started (by kernel_rfl) Tryz.func8
    (ChangeSpec.witness6 (enc := enc) (C := Tryz.checked) false ⟨#[], #[.slice none 0 0, .agg #[.string ByteArray.empty, .slice none 0 0, .int .i64 0, .int .i64 0, .int .i64 0, .int .i64 0, .int .i64 0, .int .i64 0, .int .i64 0, .int .i64 0]], []⟩ 8 (by kernel_rfl) (by kernel_rfl) (by kernel_rfl) (by kernel_rfl)) ?_
  intro W base args ds gs before hval0 hW hcnd hsz0 _
  have hval : ∀ (j : Nat) t v, Tryz.f8.params[j]? = some t → args[j]? = some v → Value.okWide Tryz.prog W .any base t v := hval0
  have hsz : (DataW.weightsEach Tryz.prog (Tryz.f8.params.toList ++ Rows.linesWideSpec.plain.varTypes Tryz.prog) (ds ++ gs)).all (· ≤ reachBytes) = true := hsz0
  have hW' := hW
  obtain ⟨p, q, hA0, hV, rfl, hfz, hnd⟩ := hW
  have hA : DataW.TrodAll enc Tryz.prog W 0 (fun _ => true) true Tryz.f8.params.toList args.toList ds p := hA0
  rw [Tryz.params8] at hA hval hsz
  obtain ⟨v0, vs0, d0, ds0, p0, q0, hargs, rfl, rfl, h0, r0⟩ := trodAll_cons hA
  obtain ⟨v1, vs1, d1, ds1, p1, q1, rfl, rfl, rfl, h1, r1⟩ := trodAll_cons r0
  obtain ⟨rfl, rfl, rfl⟩ := trodAll_nil r1
  obtain rfl : args = #[v0, v1] := by cases args; simp_all
  obtain ⟨rfl, rfl⟩ := trodVars_none hV
  obtain ⟨ao0, n0, cap0, rfl⟩ := okWide_slice Tryz.underlying22 (hval 0 22 v0 rfl rfl)
  have k0 := h0
  have lt0 : ∀ x ∈ p0, x.block < W.heap.size := by obtain ⟨m, hm⟩ := k0; exact DataW.trod_lt m _ _ _ hm
  obtain ⟨hn0, -, F0, hF0⟩ : (n0 ≤ cap0 ∧ cap0 * 80 ≤ 140737488351232) ∧ (ao0 = none → n0 = 0 ∧ cap0 = 0) ∧ ∃ F, It.StysAt (fun _ => True) W ao0 n0 F := by
    obtain ⟨fuel, hf⟩ := k0
    exact It.open_styles hf (fun n hn => by simpa using List.all_eq_true.1 hsz _ (DataW.weights_mem_each (j := 0) rfl rfl n hn))
  have k1 := h1
  have lt1 : ∀ x ∈ p1, x.block < W.heap.size := by obtain ⟨m, hm⟩ := k1; exact DataW.trod_lt m _ _ _ hm
  obtain ⟨t1, ro1, m1, rc1, wd1, s1, L1, Y1, rfl, ht1, hm1, hr1, hs1⟩ : ∃ t ao n cap width s L Y, v1 = paraV t ao n cap width s ∧ t.size ≤ maxLen ∧ (n ≤ maxLen ∧ n ≤ cap) ∧ It.RunsAt W ao n L Y ∧ I64 width ∧ I64 s.t ∧ I64 s.l ∧ I64 s.a ∧ I64 s.d ∧ I64 s.z ∧ I64 s.o ∧ I64 s.i := by
    obtain ⟨fuel, hf⟩ := k1
    exact para_value hf
  clear hA0 hval0
  refine (walk W ao0 n0 cap0 F0 hn0 hF0 t1 ro1 m1 rc1 wd1 s1 L1 Y1 ht1 hm1 hr1 hs1).mono fun e W' ⟨he, hg⟩ => ?_
  subst he
  exact ⟨_, rfl, _, _, _, [], _, [], hW', trodAll_mk1 (shut_bool Tryz.underlying4 _), (trodAll_cons_mk (Below.trod laidOut (by kernel_rfl) (of_decide_eq_true (by kernel_rfl)) k0 hg lt0) (trodAll_cons_mk (Below.trod laidOut (by kernel_rfl) (of_decide_eq_true (by kernel_rfl)) k1 hg lt1) trodAll_mk0)), rfl, hg.frame _, fun h => by cases h⟩
theorem proved : Rows.LinesWideSaid :=
  OpenClaim.holds_of_wide 8 Tryz.f8 rfl rfl rfl rfl rfl rfl rfl ⟨rfl, rfl, rfl, rfl, rfl⟩ rfl rfl rfl rfl rfl (by kernel_rfl) Tryz.func8 (by kernel_rfl)
    (of_decide_eq_true (by kernel_rfl)) (by unfold Func.isWrapper; first | (rw [if_pos (by decide +kernel)]; kernel_rfl) | (rw [if_neg (by decide +kernel)]; exact ⟨rfl, rfl⟩))
    (fun os started H enc _ => lifted os started H enc)
#print axioms proved
end Go.Proofs.YtcjcdpfjnomehaaGreat.linesWide
