/-
  For any styles and any paragraph the statement LinesWhole of the program returns true: a paragraph's lines, one behind the other, are its bytes, and their runs its styles; the first one alone begins it, the last one alone ends it. No condition besides the statement's own.
-/
import Derived.Test.YtcjcdpfjnomehaaGreatRows
import Derived.WalkKit
import Derived.ProofKit
import Derived.OpenShut
import Derived.SizedLaws
import Derived.ShutString
import Derived.ChangeOld
import Derived.Below
import Derived.Test.YtcjcdpfjnomehaaGreatPx26
import Derived.Test.YtcjcdpfjnomehaaGreatPx37
import Derived.Test.YtcjcdpfjnomehaaGreatPx38
import Derived.Test.YtcjcdpfjnomehaaGreatPx40
import Derived.Test.YtcjcdpfjnomehaaGreatPx19
import Derived.Deep.DeepCutAuto
import Derived.Deep.RegionHeld3
namespace Go.Proofs.YtcjcdpfjnomehaaGreat.linesWhole
open Go.ChangeShapes Go.WideShapes Go.ChangeAt Go.RowKit
open Go.ChangeMaps (open_string shut_string)
set_option linter.unusedVariables false
set_option linter.unusedSimpArgs false
theorem own : ownKnob Tryz.prog.godebug = none := by kernel_rfl
theorem laidOut : laidOutB Tryz.prog = true := by kernel_rfl
set_option maxRecDepth 100000 in
set_option maxHeartbeats 16000000 in
theorem walk (w : World) (ao0 : Option Addr) (n0 cap0 : Nat) (F0 : Nat → It.Sty) (hn0 : n0 ≤ cap0 ∧ cap0 * 80 ≤ 140737488351232) (hF0 : It.StysAt (fun _ => True) w ao0 n0 F0) (t1 : ByteArray) (ro1 : Option Addr) (m1 rc1 : Nat) (wd1 : Int) (s1 : Stg) (L1 Y1 : Nat → Int) (ht1 : t1.size ≤ maxLen) (hm1 : m1 ≤ maxLen ∧ m1 ≤ rc1) (hr1 : It.RunsAt w ro1 m1 L1 Y1) (hs1 : I64 wd1 ∧ I64 s1.t ∧ I64 s1.l ∧ I64 s1.a ∧ I64 s1.d ∧ I64 s1.z ∧ I64 s1.o ∧ I64 s1.i) :
    Calls Tryz.prog 4 #[.slice ao0 n0 cap0, paraV t1 ro1 m1 rc1 wd1 s1] w fun e w' => e = .returned (.bool true) ∧ Below w.heap.size w w' := by
  obtain ⟨W0, hW0, hB0, hne0, hK⟩ := prc_at w t1 ro1 m1 rc1 wd1 s1
  have HA := boxed (awake10_any W0)
  have HK := boxed hK
  have HT := boxed (fun W (hb : Below W0.heap.size W0 W) => It.table_any (fun _ => True) ao0 n0 cap0 F0 W (hF0.below (hK W hb).2))
  have HFW := boxed (fun W => few10_any t1 ro1 m1 rc1 wd1 s1 W ht1 hm1.1)
  have HF0 := boxed hF0
  have HR := boxed hr1
  have HS1 := boxed hs1
  have hm1' := hm1
  unfold maxLen at hm1' ht1
  unfold paraV
  clear hF0 hr1 hK hs1 hB0 hm1 hn0
  go_enter Tryz.func4, Tryz.ntmps4
  go_wp2_with fail
  refine HA.out.mono ?_
  rintro e w3 ⟨rfl, hb3⟩
  have HB3 := boxed hb3
  clear hb3 HA hW0
  go_wp2_with fail
  refine (HT.out _ HB3.out).mono ?_
  rintro e w4 ⟨hor, hb4⟩
  have HB4 := boxed (below_step HB3.out (Nat.le_refl _) hb4)
  clear hb4 HT
  rcases hor with ⟨hne, rfl⟩ | ⟨hz, tb, G, rfl, hT, hL⟩
  · clear hne
    go_wp2
    go_ret
    exact ⟨rfl, (HK.out _ HB4.out).2⟩
  obtain ⟨⟨hn1, hn32⟩, -, hgF⟩ := It.ckc_good F0 n0 hz
  have hgG : ∀ i, i < n0 → It.flt (G i) = 0 := fun i hi => by rw [It.flt_like (hL i hi)]; exact hgF i hi
  have HT4 := boxed hT
  have HLK := boxed hL
  have HGF := boxed hgF
  have HGG := boxed hgG
  clear hT hL hz hgF hgG
  obtain ⟨⟨c0, c1, c2, c3, c4, c5, c6, c7, c8, c9⟩, -⟩ := HK.out _ HB4.out
  by_cases hfew : t1.size ≤ 400 ∧ m1 ≤ 100
  rotate_left
  · have hff : (decide (t1.size ≤ 400) && decide (m1 ≤ 100)) = false := by
      cases e : (decide (t1.size ≤ 400) && decide (m1 ≤ 100)) with
      | false => rfl
      | true => simp at e; exact absurd e hfew
    rw [hff] at HFW
    clear hff hfew
    go_wp2_with fail
    refine (HFW.out _).mono ?_
    rintro e w5 ⟨rfl, hb5⟩
    have HB5 := boxed (below_step HB4.out (Nat.le_refl _) hb5)
    clear hb5
    go_wp2
    go_ret
    exact ⟨rfl, (HK.out _ HB5.out).2⟩
  obtain ⟨hs1, hs2⟩ := hfew
  have hff : (decide (t1.size ≤ 400) && decide (m1 ≤ 100)) = true := by simp [hs1, hs2]
  rw [hff] at HFW
  clear hff
  obtain ⟨N, hN⟩ := It.cnt_ex t1
  have HN := boxed hN
  clear hN
  go_wp2_with fail
  refine (HFW.out _).mono ?_
  rintro e w5 ⟨rfl, hb5⟩
  have HB5 := boxed (below_step HB4.out (Nat.le_refl _) hb5)
  have HT5 := boxed (HT4.out.below hb5)
  clear hb5 HFW HT4 c0 c1 c2 c3 c4 c5 c6 c7 c8 c9
  obtain ⟨⟨c0, c1, c2, c3, c4, c5, c6, c7, c8, c9⟩, -⟩ := HK.out _ HB5.out
  have hPa := fun (W : World) (hb : Below w5.heap.size w5 W) => paragraph_any (rc := rc1) (width := wd1) (s := s1) (HT5.out.below hb) HGG.out hn32 HN.out (by omega) (HR.out.below (HK.out _ (below_step HB5.out (Nat.le_refl _) hb)).2) (by omega)
  unfold Stg.val at hPa
  go_wp2_with fail
  refine (hPa _ (Below.refl _ _)).mono ?_
  rintro e w6 ⟨hb6, hor⟩
  have HB6 := boxed (below_step HB5.out (Nat.le_refl _) hb6)
  clear hPa hb6 HT5 HB5 c0 c1 c2 c3 c4 c5 c6 c7 c8 c9
  rcases hor with ⟨hck, rfl⟩ | ⟨hck, hchk, rfl⟩ | ⟨hck, hchk, bo, bc, tot, l, em, go, gc, ls, rfl, hbrk, hlne, hbo, hgot, hlaid⟩
  · generalize It.ck t1 N n0 m1 L1 Y1 = V at *
    have dV2 : (V != 0) = true := by simp [hck]
    clear hck
    have HB7 := boxed (fun o => HB6.out.alloc HB6.out.size o)
    go_wp2_with fail
    go_ret
    exact ⟨rfl, (HK.out _ (HB7.out _)).2⟩
  · generalize chkV wd1 s1 = V at *
    have dV2 : (V != 0) = true := by simp [hchk]
    clear hck
    have HB7 := boxed (fun o => HB6.out.alloc HB6.out.size o)
    go_wp2_with fail
    go_ret
    exact ⟨rfl, (HK.out _ (HB7.out _)).2⟩
  · obtain ⟨hRt, h0, -, hcr, hpr⟩ := It.ck_zero HN.out hck
    have hfit : Ru.lyf t1.size L1 Y1 0 m1 = (0, (t1.size : Int)) := by
      have := (runs_fit hn32 hcr m1 (Nat.le_refl _)).2
      rw [hpr] at this
      exact this
    rw [itls_like HLK.out] at hbrk hbo hlaid
    obtain ⟨hrg, hch⟩ := itls_chn HGF.out t1 N m1 L1 Y1 hRt (by omega) h0
    have hww : (1 ≤ wd1 ∧ wd1 ≤ 1073741824) ∧ okS s1 = true := by
      rcases chk_parts wd1 s1 with ⟨-, h⟩ | ⟨-, -, h⟩ | ⟨h1, h2, -⟩
      · omega
      · omega
      · unfold okW at h1; simp at h1; exact ⟨h1, h2⟩
    have hit : (itls F0 n0 t1 N m1 L1 Y1).length = (It.fin F0 n0 t1 (fun a => It.sta L1 Y1 m1 0 (a : Nat)) N).length := by unfold itls; simp
    have hni : (itls F0 n0 t1 N m1 L1 Y1).length ≤ 802 := by
      have h1 := It.fin_len F0 n0 t1 (fun a => It.sta L1 Y1 m1 0 (a : Nat)) N
      have h2 : N ≤ t1.size := by have h1 := It.cnt_le t1 N hRt.1; have h2 := It.it_le t1 N; omega
      omega
    have hfr := itls_fr F0 n0 t1 N m1 L1 Y1 hRt
    have hlen : ((Ru.exr L1 Y1 m1).length : Int) = (t1.size : Int) - ((0 : Nat) : Int) := (Ru.lyf_ok t1.size L1 Y1 0 (by omega) (by omega) m1 t1.size hfit).2.2.2.2
    have hL1 := (Ru.lyf_ok t1.size L1 Y1 0 (by omega) (by omega) m1 t1.size hfit).2.2.1
    have hst := exr_styles (L := L1) (crs_styles hcr m1 (Nat.le_refl _)).2
    generalize itls F0 n0 t1 N m1 L1 Y1 = IL at *
    obtain ⟨n, hn⟩ : ∃ n, IL.length = n := ⟨_, rfl⟩
    rw [hn] at hrg hch hbrk hbo hlaid hni hfr
    have hwb := brk_wb hbrk hlne
    have hbl := hwb.len
    have hlm : (l.map (bkn (nth IL) n)).length = l.length := by simp
    rw [hlm] at hbl
    have hlp : 0 < l.length := List.length_pos_iff.2 hlne
    have HLD := boxed (fun i hi => laid_like HLK.out (hlaid i hi))
    obtain ⟨bs, hbs⟩ : ∃ bs, l.map (bkn (nth IL) n) = bs := ⟨_, rfl⟩
    rw [hbs] at hwb HLD hlm
    obtain ⟨ll, hll⟩ : ∃ ll, l.length = ll := ⟨_, rfl⟩
    rw [hll] at hbl hlp hgot HLD hlm ⊢
    obtain ⟨s, hs⟩ : ∃ s, Ru.exr L1 Y1 m1 = s := ⟨_, rfl⟩
    rw [hs] at HLD hlen hst
    have hsl : s.length = t1.size := by omega
    have hLR := fun i (hi : i < ll) => line_right hRt hwb hch hfr i (by omega)
    have hcw := cat_whole hwb hch (F := nthL ls) (fun i hi => (HLD.out i (by omega)).tx)
    rw [hlm] at hcw
    have hRW := rall_whole hwb hch hsl
    rw [hlm] at hRW
    have HHP := boxed (fun a b => hgt_pos HGF.out (by omega) hst (by omega) a b)
    have HRL := boxed (fun k (hk : k ≤ ll) => rall_len hwb hch hsl k (by omega))
    have hi64 : ∀ y ∈ s, Ru.I64 y := fun y hy => by have := hst y hy; unfold Ru.I64; omega
    have HRO := boxed (fun k (hk : k ≤ ll) => rall_ok hwb hch hsl hi64 k (by omega))
    have HLE := boxed (fun k (hk : k < ll) => ln_le hwb hch k (by omega))
    have HLC := boxed (fun k (hk : k ≤ ll) => (by
      cases k with
      | zero => rw [lnF_zero]; exact Nat.zero_le _
      | succ k => rw [lnF_next]; exact (ln_le hwb hch k (by omega)).2 : lnF (nth IL) n bs t1.size k ≤ t1.size))
    have HLR := boxed hLR
    have HLN := boxed hlm
    have HCW := boxed hcw
    have HRW := boxed hRW
    have HS := boxed hs
    have HI64 := boxed hi64
    have HL1 := boxed hL1
    have hn0p : 0 < n0 := by omega
    clear hit hck hchk hcr hpr hn hwb hlaid hrg hch hfit hbrk hfr hlen hst hLR hcw hRW hi64 hs hbs hll hbo hlm hRt hL1 hlne
    obtain ⟨W6, hW6, hBW⟩ : ∃ W6, w6.alloc (.cells #[.slice bo ll bc, .int .i64 tot, .bool em] 35) = W6 ∧ Below w6.heap.size w6 W6 := ⟨_, rfl, (Below.refl _ _).alloc (Nat.le_refl _) _⟩
    have HGW := boxed (hgot.below hBW)
    have HBW := boxed (below_step HB6.out (Nat.le_refl _) hBW)
    have HTx := boxed (fun (W : World) (hb : Below W6.heap.size W6 W) => text10_any _ go ll gc (nthL ls) W (HGW.out.below hb) (by omega) (fun i hi => by
      rw [(HLD.out i hi).tx]
      have := HLE.out i hi
      rw [It.ext_size t1 _ _ this.2]
      omega))
    rw [HCW.out] at HTx
    obtain ⟨⟨d0, d1, -⟩, -⟩ := HK.out _ HBW.out
    have HDD : Box (Below W6.heap.size W6 W6.drew) := boxed (Below.refl _ _).drew
    have HCC : Box (∀ W, Below W6.heap.size W6 W → W.cell? ⟨w.heap.size, 0, none⟩ = some (.string t1)) := boxed (fun W hb => (HK.out _ (below_step HBW.out (Nat.le_refl _) hb)).1.1)
    clear hgot hBW HB6
    replace hW6 := boxed hW6
    go_upto_region 9 with (fail)
    rw [hW6.out]
    clear hW6
    go_region_held3 (fun W => W.cell? ⟨w.heap.size, 0, none⟩ = some (.string t1))
      (first | with_reducible exact HCC.out _ HDD.out | with_reducible exact HCC.out _ HB9.out)
      (first | (go_at_call 25; with_reducible refine (HTx.out _ HDD.out).mono ?_; rintro e w9 ⟨rfl, hb9⟩; have HB9 := boxed (below_step HDD.out (Nat.le_refl _) hb9); clear hb9))
    have HG9 := boxed (HGW.out.below HB9.out)
    have HBW9 := boxed (below_step HBW.out (Nat.le_refl _) HB9.out)
    have hteq : (t1.toList != t1.toList) = false := by simp
    clear HTx HCC HDD d0 d1 HGW HBW HB9
    go_wp2_with fail
    clear hteq
    go_loopw [9, 10, 11, 12, 13] (fun va vi _ _ _ wr => ∃ (i : Nat) (ao : Option Addr) (cp : Nat), i ≤ ll ∧ vi = .int .i64 (i : Nat) ∧ va = .slice ao (rall s (nth IL) n bs t1.size i).length cp ∧ Box (wr.ownsRow w9.heap.size 61 2 (.slice ao (rall s (nth IL) n bs t1.size i).length cp) (rall s (nth IL) n bs t1.size i).length (Ru.rcs (rall s (nth IL) n bs t1.size i))) ∧ Box (Below w9.heap.size w9 wr)) (fun _ vi _ _ _ _ => ll - (intOf vi).toNat)
    case atStart => exact ⟨0, none, 0, Nat.zero_le _, rfl, rfl, boxed (World.ownsRow_nil _ _ _ _), boxed (Below.refl _ _)⟩
    case round =>
      obtain ⟨i, ao, cp, hi, rfl, rfl, HO, HB⟩ := hrel
      by_cases hlt : i < ll
      · have hld := HLD.out i hlt
        have hle := HLE.out i hlt
        have HRi : Box (rall s (nth IL) n bs t1.size (i + 1) = rall s (nth IL) n bs t1.size i ++ Ru.enc (Ru.sub s (lnF (nth IL) n bs t1.size i) (lnC (nth IL) n bs t1.size i))) := boxed rfl
        have hrl := HRL.out i (by omega)
        have hrl2 := HRL.out (i + 1) (by omega)
        have hlc := HLC.out (i + 1) (by omega)
        obtain ⟨M, hM⟩ := HLR.out i hlt
        obtain ⟨hpp, gb, goff, hgo, -, c0, c1, c2, c3, c4, c5, c6, c7, c8⟩ := (HG9.out.below HB.out) i hlt
        subst hgo
        have hsm := Ru.sm_enc (Ru.sub s (lnF (nth IL) n bs t1.size i) (lnC (nth IL) n bs t1.size i))
        rw [Ru.sub_len _ _ _ (by omega)] at hsm
        have htz : (nthL ls i).tx.size = lnC (nth IL) n bs t1.size i - lnF (nth IL) n bs t1.size i := by rw [hld.tx]; exact It.ext_size t1 _ _ hle.2
        have HRt : Box (It.Right (nthL ls i).tx M) := boxed (by rw [hld.tx]; exact hM)
        have hh1 : ¬ (nthL ls i).h < 1 := by rw [hld.h]; have := HHP.out (lnF (nth IL) n bs t1.size i) (lnC (nth IL) n bs t1.size i); omega
        have hd1 : ¬ (nthL ls i).den < 1 := by rw [hld.den]; have := den_pos (lin (nth IL) n (lnA bs i) (bs.getD i 0 : Nat)) wd1; omega
        have hy0 := hld.y
        have hbg := hld.bg
        have hen := hld.en
        have hrn := hld.rn
        have HLY : Box (∀ j, j < (nthL ls i).rn → (nthL ls i).L j = (((Ru.enc (Ru.sub s (lnF (nth IL) n bs t1.size i) (lnC (nth IL) n bs t1.size i))).getD j (0, 0)).1 : Nat) ∧ (nthL ls i).Y j = Ru.Ys (Ru.enc (Ru.sub s (lnF (nth IL) n bs t1.size i) (lnC (nth IL) n bs t1.size i))) j) := boxed (fun j hj => ⟨hld.L j hj, hld.Y j hj⟩)
        rw [hy0] at c6
        rw [hbg] at c7
        rw [hen] at c8
        have hbl2 : bs.length = ll := HLN.out
        rw [hbl2] at c8
        have tb : ((i : Int) == 0) = decide (i = 0) := by
          by_cases c : i = 0
          · subst c; rfl
          · have e1 : decide (i = 0) = false := decide_eq_false c
            rw [e1, beq_eq_false_iff_ne]; omega
        have te : ((i : Int) == (ll : Int) - 1) = decide (i + 1 = ll) := by
          by_cases c : i + 1 = ll
          · have e1 : decide (i + 1 = ll) = true := decide_eq_true c
            rw [e1, beq_iff_eq]; omega
          · have e1 : decide (i + 1 = ll) = false := decide_eq_false c
            rw [e1, beq_eq_false_iff_ne]; omega
        clear hld hM hbg hen hy0 hbl2
        generalize hR : Ru.enc (Ru.sub s (lnF (nth IL) n bs t1.size i) (lnC (nth IL) n bs t1.size i)) = R at *
        clear hR
        have hA5 : (rall s (nth IL) n bs t1.size (i + 1)).length ≤ 400 := by omega
        have hR4 : R.length ≤ 400 := by
          have := congrArg List.length HRi.out
          rw [List.length_append] at this
          omega
        generalize hD : lnC (nth IL) n bs t1.size i - lnF (nth IL) n bs t1.size i = D at *
        have hDD : D ≤ 400 := by omega
        have hT4 : (nthL ls i).tx.size ≤ 400 := by omega
        rw [← htz] at hsm
        clear hD htz hle hlc
        generalize hx : nthL ls i = x at *
        clear hx
        generalize decide (i = 0) = B7 at *
        generalize decide (i + 1 = ll) = B8 at *
        obtain ⟨tx, ra, rn, rc, num, den, h, hy, y, bg, en, L, Y⟩ := x
        simp only at hpp c0 c1 c2 c3 c4 c5 c6 c7 c8 hsm HRt hh1 hd1 hrn HLY hT4
        have td : decide (den < 1) = false := decide_eq_false hd1
        have th : decide (h < 1) = false := decide_eq_false hh1
        have HRg := boxed (fun W => It.refright_any tx W (by omega) M HRt.out.1)
        rw [It.right_bad tx M HRt.out] at HRg
        have hba := (Below.refl wr.heap.size wr).alloc (Nat.le_refl _) (.cells #[.string tx, .slice ra rn rc, .int .i64 num, .int .i64 den, .int .i64 h, .bool hy, .int .i64 0, .bool B7, .bool B8] 59)
        obtain ⟨W1, hW1⟩ : ∃ W1, wr.alloc (.cells #[.string tx, .slice ra rn rc, .int .i64 num, .int .i64 den, .int .i64 h, .bool hy, .int .i64 0, .bool B7, .bool B8] 59) = W1 := ⟨_, rfl⟩
        have x0 : W1.cell? ⟨wr.heap.size, 0, none⟩ = some (.string tx) := by rw [← hW1]; exact cell_first _ _ _ _
        have x1 : W1.cell? ⟨wr.heap.size, 1, none⟩ = some (.slice ra rn rc) := by rw [← hW1]; exact cell_first _ _ _ _
        have x3 : W1.cell? ⟨wr.heap.size, 3, none⟩ = some (.int .i64 den) := by rw [← hW1]; exact cell_first _ _ _ _
        have x4 : W1.cell? ⟨wr.heap.size, 4, none⟩ = some (.int .i64 h) := by rw [← hW1]; exact cell_first _ _ _ _
        have x6 : W1.cell? ⟨wr.heap.size, 6, none⟩ = some (.int .i64 0) := by rw [← hW1]; exact cell_first _ _ _ _
        have x7 : W1.cell? ⟨wr.heap.size, 7, none⟩ = some (.bool B7) := by rw [← hW1]; exact cell_first _ _ _ _
        have x8 : W1.cell? ⟨wr.heap.size, 8, none⟩ = some (.bool B8) := by rw [← hW1]; exact cell_first _ _ _ _
        rw [hW1] at hba
        have HP1 := boxed (hpp.below hba)
        have HO1 := boxed (owns_below HO.out hba)
        have HB1 := boxed (below_step HB.out (Nat.le_refl _) hba)
        have HRN := boxed hrn
        have hrn4 : rn ≤ 400 := by omega
        have HSM := boxed hsm
        have hlt2 : (i : Int) < (ll : Int) := by omega
        replace hW1 := boxed hW1
        clear hpp hba hrn hh1 hd1 hsm HO
        go_upto_region 16 with (fail)
        rw [hW1.out]
        clear hW1 c0 c1 c2 c3 c4 c5 c6 c7 c8
        go_wp2_with fail
        go_loopw [12, 13] (fun vn vk wz => ∃ k : Nat, k ≤ rn ∧ vk = .int .i64 (k : Nat) ∧ vn = .int .i64 (Ru.sm (R.take k) : Nat) ∧ W1 = wz) (fun _ vk _ => rn - (intOf vk).toNat)
        case atStart => first | exact ⟨0, Nat.zero_le _, rfl, by simp [Ru.sm], rfl⟩ | exact ⟨0, Nat.zero_le _, rfl, by simp [Ru.sm]⟩
        case round =>
          obtain ⟨k, hk, rfl, rfl, rfl⟩ := hrel
          by_cases hkl : k < rn
          · obtain ⟨rb, roff, hra, -⟩ := HP1.out.form (by omega)
            subst hra
            have e0 := (HP1.out.get k hkl).1
            rw [(HLY.out k hkl).1] at e0
            have hsk := sm_take R k (by have := HRN.out; omega)
            have hsl2 := sm_take_le R (k + 1)
            have hsz2 := HSM.out
            have HSK := boxed hsk
            have hkl2 : (k : Int) < (rn : Int) := by omega
            rw [hsk] at hsl2
            clear hsk
            generalize (R.getD k (0, 0)).1 = dd at *
            generalize hS1 : Ru.sm (R.take k) = S1 at *
            clear hS1
            have hb1 : S1 + dd ≤ 65536 := by omega
            clear hsl2 hsz2
            go_wp2_with fail
            go_roundw
            case rel => exact ⟨k + 1, by omega, by go_num, by (rw [HSK.out]; try go_num), by trivial⟩
            case measure => simp [intOf]; omega
          · obtain rfl : rn = k := by omega
            have HTK : Box (Ru.sm (R.take rn) = tx.size) := boxed (by rw [HRN.out, List.take_length]; exact HSM.out)
            rw [HTK.out]
            have tz : ((tx.size : Int) != (tx.size : Int)) = false := by simp
            clear HTK
            go_wp2_with fail
            refine (HRg.out _).mono ?_
            rintro e w2 ⟨rfl, hb2⟩
            have x1' := hold hb2 x1
            have hp2 := HP1.out.below hb2
            have hO2 := owns_below HO1.out hb2
            have hB2 := below_step HB1.out (Nat.le_refl _) hb2
            have hz2 := hB2.size
            have HB2 := boxed hB2
            have hlr : (rall s (nth IL) n bs t1.size i).length + rn ≤ 100000 := by
              have e := HRi.out
              have hrn2 := HRN.out
              have : (rall s (nth IL) n bs t1.size (i + 1)).length = (rall s (nth IL) n bs t1.size i).length + R.length := by rw [e, List.length_append]
              omega
            clear hb2 hB2 x0 x1 x3 x4 x6 x7 x8 HRg
            generalize hA : rall s (nth IL) n bs t1.size i = A at *
            replace hA := boxed hA
            generalize hAL : A.length = AL at *
            replace hAL := boxed hAL
            go_wp2_with (at_builtin; refine append_runs rfl _ _ rfl w9.heap.size _ _ _ rfl hO2 _ ra rn rc L Y R rfl hp2 HRN.out.symm HLY.out hlr hz2 ?_)
            intro v' w3 hown3 hgrow3
            have HB3 : Box (Below w9.heap.size w9 w3) := boxed (HB2.out.grown hgrow3 hz2 (fun k hk => (hO2.lt k hk).1))
            have h3 : w3.ownsRow w9.heap.size 61 2 v' (rall s (nth IL) n bs t1.size (i + 1)).length (Ru.rcs (rall s (nth IL) n bs t1.size (i + 1))) := by
              rw [HRi.out, List.length_append, Ru.rcs_app, hAL.out, ← HRN.out]; exact hown3
            obtain ⟨ao3, cp3, rfl⟩ := own_shape h3
            have HO3 := boxed h3
            clear hown3 hgrow3 h3 hO2 hp2
            go_wp2_with fail
            go_roundw
            case rel => exact ⟨i + 1, ao3, cp3, by omega, by go_num, rfl, HO3, HB3⟩
            case measure => simp [intOf]; omega
      · obtain rfl : ll = i := by omega
        have HBr := boxed (below_step HBW9.out (Nat.le_refl _) HB.out)
        have HKM := boxed (HRO.out ll (Nat.le_refl _))
        have hkl := HRL.out ll (Nat.le_refl _)
        have hlc := HLC.out ll (Nat.le_refl _)
        have HGM : Box (∀ j, j < (rall s (nth IL) n bs t1.size ll).length → ((((rall s (nth IL) n bs t1.size ll).getD j (0, 0)).1 : Nat) : Int) ≤ 1099511627776) := boxed (fun j hj => by
          have := (HKM.out ((rall s (nth IL) n bs t1.size ll).getD j (0, 0)) (by rw [List.getD_eq_getElem?_getD, List.getElem?_eq_getElem hj]; exact List.getElem_mem hj)).1
          omega)
        have HM0 : Box (∀ W, Below wr.heap.size wr W → Calls Tryz.prog 28 #[.slice ao (rall s (nth IL) n bs t1.size ll).length cp] W fun e w' => ∃ v, e = .returned v ∧ w'.ownsRow W.heap.size 61 2 v (Ru.enc s).length (Ru.rcs (Ru.enc s)) ∧ Below W.heap.size W w') := boxed (fun W hb => by
          have h := Ru.merged_any W ao (rall s (nth IL) n bs t1.size ll).length cp _ _ ((Ru.own_runs (owns_below HO.out hb) rfl (fun p hp => ⟨by have := (HKM.out p hp).1; omega, (HKM.out p hp).2⟩)).keep (fun b j u hs hc => ⟨trivial, hc⟩)) (by omega) HGM.out
          rw [← Ru.exs_exr, Ru.exs_flat, HRW.out] at h
          exact h)
        have HM1 : Box (∀ W, Below wr.heap.size wr W → Calls Tryz.prog 28 #[.slice ro1 m1 rc1] W fun e w' => ∃ v, e = .returned v ∧ w'.ownsRow W.heap.size 61 2 v (Ru.enc s).length (Ru.rcs (Ru.enc s)) ∧ Below W.heap.size W w') := boxed (fun W hb => by
          have h := Ru.merged_any W ro1 m1 rc1 L1 Y1 (runs_pair (HR.out.below (HK.out _ (below_step HBr.out (Nat.le_refl _) hb)).2)) (by omega) (fun i hi => by have := (HL1.out i hi).2; omega)
          rw [HS.out] at h
          exact h)
        have HOK := boxed (Ru.enc_ok2 (s := s) (by omega) HI64.out)
        have hel := Ru.enc_len s
        have HCC : Box (∀ W, Below wr.heap.size wr W → W.cell? ⟨w.heap.size, 1, none⟩ = some (.slice ro1 m1 rc1)) := boxed (fun W hb => (HK.out _ (below_step HBr.out (Nat.le_refl _) hb)).1.2.1)
        have HDD : Box (Below wr.heap.size wr wr.drew) := boxed (Below.refl _ _).drew
        have d1 := HCC.out _ (Below.refl _ _)
        clear HGM HKM hkl hlc HO
        generalize (rall s (nth IL) n bs t1.size ll).length = AL at *
        go_upto_region 24 with (fail)
        go_region_held3 (fun W => W.cell? ⟨w.heap.size, 1, none⟩ = some (.slice ro1 m1 rc1))
          (first | with_reducible exact HCC.out _ HDD.out | with_reducible exact HCC.out _ HBa.out | with_reducible exact HCC.out _ HBb.out | with_reducible exact HCC.out _ HBz.out)
          (first
            | (go_at_call 28; with_reducible refine (HM0.out _ HDD.out).mono ?_; rintro e wa ⟨va, rfl, hva, hba⟩; clear HM0; have HVa := boxed hva; have HBa := boxed (below_step HDD.out (Nat.le_refl _) hba); clear hva hba)
            | (go_at_call 28; with_reducible refine (HM1.out _ HBa.out).mono ?_; rintro e wb ⟨vb, rfl, hvb, hbb⟩; clear HM1; have HVb := boxed (And.intro (owns_below HVa.out hbb) hvb); have HBb := boxed (below_step HBa.out (Nat.le_refl _) hbb); clear hvb hbb)
            | (go_at_call 27; with_reducible refine (Ru.rsame_runs _ _ _ _ _ _ _ HVb.out.1 HVb.out.2 HOK.out HOK.out (by omega)).mono ?_; rintro e wz ⟨r, rfl, hr, hbz⟩; have hrt := hr.2 rfl; subst hrt; have HBz := boxed (below_step HBb.out (Nat.le_refl _) hbz); clear hr hbz))
        go_wp2_with fail
        go_ret
        exact ⟨rfl, (HK.out _ (below_step HBr.out (Nat.le_refl _) HBz.out)).2⟩
set_option maxRecDepth 100000 in
theorem lifted (os : Os) (started : os.Started) (H : Type) (enc : TypeId × Value → H) :
    ReturnsInHanded {} Tryz.checked os 4 .any (Rows.linesWholeSpec.pre6 enc Tryz.prog Tryz.f4 Rows.linesWholeRow.domain false) (Rows.linesWholeSpec.post enc Tryz.prog Tryz.f4 false true false false) := by
  refine returnsInHanded_of_change_sized (C := Tryz.checked) own started (by kernel_rfl) Tryz.func4
    (ChangeSpec.witness6 (enc := enc) (C := Tryz.checked) false ⟨#[], #[.slice none 0 0, .agg #[.string ByteArray.empty, .slice none 0 0, .int .i64 0, .int .i64 0, .int .i64 0, .int .i64 0, .int .i64 0, .int .i64 0, .int .i64 0, .int .i64 0]], []⟩ 8 (by kernel_rfl) (by kernel_rfl) (by kernel_rfl) (by kernel_rfl)) ?_
  intro W base args ds gs before hval0 hW hcnd hsz0 _
  have hval : ∀ (j : Nat) t v, Tryz.f4.params[j]? = some t → args[j]? = some v → Value.okWide Tryz.prog W .any base t v := hval0
  have hsz : (DataW.weightsEach Tryz.prog (Tryz.f4.params.toList ++ Rows.linesWholeSpec.plain.varTypes Tryz.prog) (ds ++ gs)).all (· ≤ reachBytes) = true := hsz0
  have hW' := hW
  obtain ⟨p, q, hA0, hV, rfl, hfz, hnd⟩ := hW
  have hA : DataW.TrodAll enc Tryz.prog W 0 (fun _ => true) true Tryz.f4.params.toList args.toList ds p := hA0
  rw [Tryz.params4] at hA hval hsz
  obtain ⟨v0, vs0, d0, ds0, p0, q0, hargs, rfl, rfl, h0, r0⟩ := trodAll_cons hA
  obtain ⟨v1, vs1, d1, ds1, p1, q1, rfl, rfl, rfl, h1, r1⟩ := trodAll_cons r0
  obtain ⟨rfl, rfl, rfl⟩ := trodAll_nil r1
  obtain rfl : args = #[v0, v1] := by cases args; simp_all
  obtain ⟨rfl, rfl⟩ := trodVars_none hV
  obtain ⟨ao0, n0, cap0, rfl⟩ := okWide_slice Tryz.underlying22 (hval 0 22 v0 rfl rfl)
  have k0 := h0
  have lt0 : ∀ x ∈ p0, x.block < W.heap.size := by obtain ⟨m, hm⟩ := k0; exact DataW.trod_lt m _ _ _ hm
  obtain ⟨hn0, -, F0, hF0⟩ : (n0 ≤ cap0 ∧ cap0 * 80 ≤ 140737488351232) ∧ (ao0 = none → n0 = 0 ∧ cap0 = 0) ∧ ∃ F, It.StysAt (fun _ => True) W ao0 n0 F := by
    obtain ⟨fuel, hf⟩ := k0
    exact It.open_styles hf (fun n hn => by simpa using List.all_eq_true.1 hsz _ (DataW.weights_mem_each (j := 0) rfl rfl n hn))
  have k1 := h1
  have lt1 : ∀ x ∈ p1, x.block < W.heap.size := by obtain ⟨m, hm⟩ := k1; exact DataW.trod_lt m _ _ _ hm
  obtain ⟨t1, ro1, m1, rc1, wd1, s1, L1, Y1, rfl, ht1, hm1, hr1, hs1⟩ : ∃ t ao n cap width s L Y, v1 = paraV t ao n cap width s ∧ t.size ≤ maxLen ∧ (n ≤ maxLen ∧ n ≤ cap) ∧ It.RunsAt W ao n L Y ∧ I64 width ∧ I64 s.t ∧ I64 s.l ∧ I64 s.a ∧ I64 s.d ∧ I64 s.z ∧ I64 s.o ∧ I64 s.i := by
    obtain ⟨fuel, hf⟩ := k1
    exact para_value hf
  clear hA0 hval0
  refine (walk W ao0 n0 cap0 F0 hn0 hF0 t1 ro1 m1 rc1 wd1 s1 L1 Y1 ht1 hm1 hr1 hs1).mono fun e W' ⟨he, hg⟩ => ?_
  subst he
  exact ⟨_, rfl, _, _, _, [], _, [], hW', trodAll_mk1 (shut_bool Tryz.underlying4 _), (trodAll_cons_mk (Below.trod laidOut (by kernel_rfl) (of_decide_eq_true (by kernel_rfl)) k0 hg lt0) (trodAll_cons_mk (Below.trod laidOut (by kernel_rfl) (of_decide_eq_true (by kernel_rfl)) k1 hg lt1) trodAll_mk0)), rfl, hg.frame _, fun h => by cases h⟩
theorem proved : Rows.LinesWholeSaid :=
  OpenClaim.holds_of_wide 4 Tryz.f4 rfl rfl rfl rfl rfl rfl rfl ⟨rfl, rfl, rfl, rfl, rfl⟩ rfl rfl rfl rfl rfl (by kernel_rfl) Tryz.func4 (by kernel_rfl)
    (of_decide_eq_true (by kernel_rfl)) (by unfold Func.isWrapper; first | (rw [if_pos (by decide +kernel)]; kernel_rfl) | (rw [if_neg (by decide +kernel)]; exact ⟨rfl, rfl⟩))
    (fun os started H enc _ => lifted os started H enc)
#print axioms proved
end Go.Proofs.YtcjcdpfjnomehaaGreat.linesWhole
