/-
  What the program's Delete does.
-/
import Derived.Test.YtholifolkimkdaaGk
namespace Go.Proofs.Ytholifolkimkdaa
open Go.RowKit
set_option linter.unusedSimpArgs false
set_option linter.unusedVariables false

theorem hd_fnd {l : List Bool} {a q : Nat} (h : Hd (sp l) a q) (ha : a < l.length) : fnd l a = q := by
  rcases h with ⟨h1, h2⟩ | ⟨h1, h2, h3⟩
  · rw [sp_sum] at h1; omega
  · exact fnd_of l q a h1 h2 h3
section
variable {w : World} {xb : Nat} {ao : Option Addr} {cap : Nat} {l : List Bool}

set_option maxRecDepth 100000 in
set_option maxHeartbeats 4000000 in
theorem delete_ok (h : TxAt w xb ao cap l) (a b : Nat) (hab : a < b) (hb : b ≤ l.length) :
    Calls Try.prog 21 #[.pointer (some ⟨xb, 0, none⟩), .int .i64 (a : Nat), .int .i64 (b : Nat)] w fun e w' => EdP w xb ao cap l (l.take a ++ l.drop b) (fnd l a) (dlo l a b) (hd0 (dll l a b)).length 0 e w' := by
  obtain ⟨w0, hw0⟩ : ∃ w0, w.alloc (.cells #[.int .i64 0, .int .i64 0, .int .i64 0] 30) = w0 := ⟨_, rfl⟩
  have hb0 : Below w.heap.size w w0 := by rw [← hw0]; exact new_below _ _
  have hzs0 : w0.heap.size = w.heap.size + 1 := by rw [← hw0]; exact new_size _ _
  have HN : Box (∀ W, Below w0.heap.size w0 W → W.heap[w.heap.size]? = some (.cells #[.int .i64 0, .int .i64 0, .int .i64 0] 30 (0, 0))) := boxed (fun W hb => by rw [hb.block w.heap.size (by omega), ← hw0]; exact heap_alloc_new w _)
  have hI : ∀ W, Below w0.heap.size w0 W → TxAt W xb ao cap l := fun W hb => (h.below hb0).below hb
  have hsum := sp_sum l
  have hll : l.length ≤ 65536 := by have := h.len; omega
  have hov := over_some (hI _ (Below.refl _ _)) a b hab (by rw [sp_sum]; exact hb)
  have hlt := h.lt
  have z : ((a : Int) == (b : Int)) = false := by rw [beq_eq_false_iff_ne]; omega
  have z' : (a == b) = false := by rw [beq_eq_false_iff_ne]; omega
  obtain ⟨s1, s2, s3⟩ := fnd_spec l a (by omega)
  obtain ⟨t1, t2, t3⟩ := fnd_spec l (b - 1) (by omega)
  have hpq0 := fnd_mono l a (b - 1) (by omega)
  have hspl := sp_len l
  obtain ⟨hfin1, hfin2, hfin3, hfin4⟩ := del_sp l a b hab hb
  have HSz := boxed (fun W hb => size_any (hI W hb))
  rw [hsum] at HSz
  have HB1 := boxed (fun W hb => begin_any (hI W hb) (fnd l a) (by omega))
  have HB2 := boxed (fun W hb => begin_any (hI W hb) (fnd l (b - 1) + 1) (by omega))
  have HII := boxed hI
  have HB0 := boxed hb0
  have HOV : Box (∀ p q, Hd (sp l) a p → Hd (sp l) (b - 1) q → p = fnd l a ∧ q = fnd l (b - 1)) := boxed (fun p q h1 h2 => ⟨(hd_fnd h1 (by omega)).symm, (hd_fnd h2 (by omega)).symm⟩)
  have hlf := show dll l a b = a - Bg (sp l) (fnd l a) + Bg (sp l) (fnd l a + dlo l a b) - b from rfl
  have hoo := show dlo l a b = fnd l (b - 1) + 1 - fnd l a + (if (0 < a - Bg (sp l) (fnd l a) ∧ b = Bg (sp l) (fnd l (b - 1) + 1)) ∧ b < l.length then 1 else 0) from rfl
  have hbl1 := Bg_le (sp l) (fnd l a + dlo l a b)
  have hbl2 := Bg_le (sp l) (fnd l (b - 1) + 1)
  rw [hsum] at hbl1 hbl2
  have hpos := fun n (hn : n ∈ hd0 (dll l a b)) => sp_pos (l.take a ++ l.drop b) n (by rw [hfin1]; simp [hn])
  have hss : ((sp l).take (fnd l a) ++ hd0 (dll l a b) ++ (sp l).drop (fnd l a + dlo l a b)).sum ≤ 65536 := by rw [← hfin1, sp_sum]; simp; omega
  have HPut : Box (∀ W so sc o' n, (hd0 (dll l a b)).length = n → IxAt W xb ao cap (sp l) o' → NAt (fun _ => True) W so (hd0 (dll l a b)) → Calls Try.prog 35 #[.pointer (some ⟨xb, 0, none⟩), .int .i64 (fnd l a : Nat), .int .i64 (dlo l a b : Nat), .slice so n sc] W fun e w' =>
      e = .returned (.tuple #[]) ∧ ∃ ao' cap', IxAt w' xb ao' cap' ((sp l).take (fnd l a) ++ hd0 (dll l a b) ++ (sp l).drop (fnd l a + dlo l a b)) o' ∧ NAt (fun b => W.heap.size ≤ b) w' ao' (ens 0 ((sp l).take (fnd l a) ++ hd0 (dll l a b) ++ (sp l).drop (fnd l a + dlo l a b))) ∧ W.grownBy w' (some xb)) := boxed (fun W so sc o' n hn hx ho => by
    subst hn
    exact put_any hx (fnd l a) (dlo l a b) (hd0 (dll l a b)) so sc _ ho hfin3 hpos (by cases dll l a b <;> simp [hd0]) (by
      have := hss
      rw [List.sum_append, List.sum_append] at this
      omega) hss)
  clear h hI hb0 hpos hss
  generalize hP : fnd l a = p at *
  generalize hQ : fnd l (b - 1) = q at *
  generalize hOe : dlo l a b = O at *
  generalize hLe : dll l a b = LF at *
  clear hP hQ hOe hLe
  obtain ⟨R, hR⟩ : ∃ R, p + O = R := ⟨_, rfl⟩
  rw [hR] at hfin1 hfin3 hfin4 hlf hbl1 HPut
  have hRle : R ≤ (sp l).length := hfin3
  have eR : (p : Int) + (O : Int) = (R : Int) := by omega
  obtain ⟨O0, hO0⟩ : ∃ O0, q + 1 - p = O0 := ⟨_, rfl⟩
  rw [hO0] at hoo
  obtain ⟨R0, hR0⟩ : ∃ R0, q + 1 = R0 := ⟨_, rfl⟩
  rw [hR0] at HB2 hoo hbl2 t3
  have eR0 : (p : Int) + (O0 : Int) = (R0 : Int) := by omega
  have hRb : R ≤ 65536 := by omega
  have hR0b : R0 ≤ 65536 := by omega
  obtain ⟨AH, hAH⟩ : ∃ AH, a - Bg (sp l) p = AH := ⟨_, rfl⟩
  rw [hAH] at hfin2 hfin4 hlf hoo
  have eAH : (a : Int) - ((Bg (sp l) p : Nat) : Int) = (AH : Int) := by omega
  have hbp : Bg (sp l) p ≤ 65536 := by omega
  generalize hBP : Bg (sp l) p = BP at *
  generalize hBQ : Bg (sp l) R0 = BQ at *
  generalize hBR : Bg (sp l) R = BR at *
  have hAHb : AH ≤ 65536 := by omega
  clear s2 s3 t2 t3 hpq0 hAH hBP hBQ hfin3
  replace hR := boxed hR
  replace hR0 := boxed hR0
  replace hlf := boxed hlf
  replace hoo := boxed hoo
  replace hBR := boxed hBR
  have HF1 := boxed hfin1
  have HF2 := boxed hfin2
  clear hfin1 hfin2
  go_enter Try.func21, Try.ntmps21
  go_wp2_with fail
  refine hov.mono ?_
  rintro e w1 ⟨p', q', rfl, -, -, hp, hq, hb1⟩
  obtain ⟨ep, eq⟩ := HOV.out p' q' hp hq
  subst p' q'
  have HD1 := boxed hb1
  clear hov HOV hp hq hb1
  rw [hO0]
  replace hO0 := boxed hO0
  obtain ⟨w2, hw2⟩ : ∃ w2, w1.alloc (.cells #[.int .i64 (p : Nat), .int .i64 (O0 : Nat), .int .i64 (O0 : Nat)] 30) = w2 := ⟨_, rfl⟩
  have hb2 : Below w1.heap.size w1 w2 := by rw [← hw2]; exact new_below _ _
  have HD2 := boxed (below_step HD1.out (Nat.le_refl _) hb2)
  have hV2 : w2.heap[w1.heap.size]? = some (.cells #[.int .i64 (p : Nat), .int .i64 (O0 : Nat), .int .i64 (O0 : Nat)] 30 (0, 0)) := by rw [← hw2]; exact heap_alloc_new w1 _
  obtain ⟨⟨y0, y1, y2⟩, -⟩ := cells3 hV2
  clear hb2 hV2 HD1
  go_wp2_with fail
  go_quiet (fail)
  have HD3 : Box (Below w0.heap.size w0 (w2.drewN nq)) := boxed (HD2.out.trans (bel_drewN _ _ _))
  clear HD2 y0 y1 y2
  generalize w2.drewN nq = w3 at *
  go_wp2_with fail
  refine (HB1.out _ HD3.out).mono ?_
  rintro e w4 ⟨rfl, hb4⟩
  have HD4 := boxed (below_step HD3.out (Nat.le_refl _) hb4)
  clear hb4 HB1 HD3
  go_wp2_with fail
  refine (HSz.out _ HD4.out).mono ?_
  rintro e w5 ⟨rfl, hb5⟩
  have HD5 := boxed (below_step HD4.out (Nat.le_refl _) hb5)
  clear hb5 HSz HD4
  by_cases hend : b = l.length
  · have tE : ((b : Int) == (l.length : Int)) = true := by rw [beq_iff_eq]; omega
    have tE' : (b == l.length) = true := by rw [beq_iff_eq]; exact hend
    obtain rfl : O = O0 := by have := hoo.out; rw [if_neg (by omega)] at this; omega
    obtain rfl : R = R0 := by have := hR.out; have := hR0.out; have := hO0.out; omega
    have HFI : Box (sp (l.take a ++ l.drop b) = (sp l).take p ++ hd0 LF ++ (sp l).drop R ∧ op (l.take a ++ l.drop b) = decide (0 < AH)) := boxed ⟨HF1.out, by
      have := HF2.out
      rw [if_pos hend] at this
      rw [this]
      cases AH with
      | zero => rfl
      | succ y => simp [nz]⟩
    have x1 := (HII.out _ HD5.out).c1
    have f1 := (HII.out _ HD5.out).fz 1
    have HIW := boxed ((HII.out _ HD5.out).setOpen (decide (0 < AH)))
    have HGV : Box (w.grownBy (w5.setCell ⟨xb, 1, none⟩ (.bool (decide (0 < AH)))) (some xb)) := boxed (grown_trans (below_grown (HB0.out.trans (HD5.out.mono (by omega))) _) (grown_set _ _ _ _))
    have HRV : Box ((w5.setCell ⟨xb, 1, none⟩ (.bool (decide (0 < AH)))).heap[w.heap.size]? = some (.cells #[.int .i64 0, .int .i64 0, .int .i64 0] 30 (0, 0))) := boxed (by rw [Below.heap_setCell _ _ _ _ (by show w.heap.size ≠ xb; omega)]; exact HN.out _ HD5.out)
    have hsW : w.heap.size < (w5.setCell ⟨xb, 1, none⟩ (.bool (decide (0 < AH)))).heap.size := by have := HD5.out.size; simp; omega
    generalize hDD : decide (0 < AH) = DD at *
    obtain ⟨wq, hwq⟩ : ∃ wq, w5.setCell ⟨xb, 1, none⟩ (.bool DD) = wq := ⟨_, rfl⟩
    rw [hwq] at HIW HGV HRV hsW
    replace hend := boxed hend
    clear HF1 HF2 HII
    go_wp2_with fail
    have hBG := begin_any HIW.out R hRle
    rw [hBR.out] at hBG
    refine hBG.mono ?_
    rintro e w7 ⟨rfl, hb7⟩
    have HD7 := boxed hb7
    clear hBG
    have hs7 := hb7.size
    clear hb7
    by_cases hl0 : LF = 0
    · have HLN : Box ((hd0 LF).length = 0) := boxed (by rw [hl0]; rfl)
      have HIX := boxed (HIW.out.below HD7.out)
      have HOZ : Box (NAt (fun _ => True) w7 none (hd0 LF)) := boxed (by rw [hl0]; intro i hi; exact absurd hi (by simp [hd0]))
      have HGW : Box (w.grownBy w7 (some xb)) := boxed (grown_trans HGV.out (below_grown HD7.out _))
      have HWS : Box (w.heap.size < w7.heap.size) := boxed (by omega)
      have HRW : Box (w7.heap[w.heap.size]? = some (.cells #[.int .i64 0, .int .i64 0, .int .i64 0] 30 (0, 0))) := boxed (by rw [HD7.out.block _ (by omega)]; exact HRV.out)
      have eL : (AH : Int) + ((BR : Nat) : Int) - (b : Int) = 0 := by have := hlf.out; omega
      clear HIW HGV HRV
      go_wp2_with fail
      refine (HPut.out _ _ _ _ _ HLN.out HIX.out HOZ.out).mono ?_
      rintro e w10 ⟨rfl, a10, c10, hx10, hn10, hg10⟩
      have HG10 := boxed (grown_trans HGW.out hg10)
      have HR10 : Box (w10.heap[w.heap.size]? = some (.cells #[.int .i64 0, .int .i64 0, .int .i64 0] 30 (0, 0))) := boxed (by rw [hg10.block w.heap.size HWS.out (by intro e; injection e; omega)]; exact HRW.out)
      obtain ⟨⟨d0, d1, d2⟩, g0, g1, g2⟩ := cells3 HR10.out
      have HT := put3_all HR10.out (.int .i64 (p : Nat)) (.int .i64 (O : Nat)) (.int .i64 0)
      have HX11 := boxed (IxAt.other hx10 hn10 HT.2.1 HWS.out (by omega))
      have HG11 := boxed (grown_new HG10.out HT.2.1 (Nat.le_refl _))
      obtain ⟨⟨q0, q1, q2⟩, -, -⟩ := HT
      have HR := boxed (And.intro q0 (And.intro q1 q2))
      have HWS2 := boxed (Nat.le_of_lt HWS.out)
      clear q0 q1 q2 hx10 hn10 hg10 HPut HIX HOZ
      go_wp2
      refine bodyPost_ret (v := .tuple #[.agg #[.int .i64 (p : Nat), .int .i64 (O : Nat), .int .i64 0], .int .i64 0]) (by simp [results, Try.results21, go_sem, HR.out.1, HR.out.2.1, HR.out.2.2]) rfl ?_
      exact ⟨by rw [HLN.out]; rfl, HG11.out, a10, c10, by rw [TxAt, HFI.out.1, HFI.out.2]; exact HX11.out.1, .inr (by rw [HFI.out.1]; exact HX11.out.2.keep (fun b i u hs hc => ⟨Nat.le_trans HWS2.out hs, hc⟩))⟩
    · have tL : decide ((0 : Int) < (LF : Int)) = true := decide_eq_true (by omega)
      have tL' : decide (0 < LF) = true := decide_eq_true (by omega)
      have eL : (AH : Int) + ((BR : Nat) : Int) - (b : Int) = (LF : Int) := by have := hlf.out; omega
      obtain ⟨wa, hwa⟩ : ∃ wa, w7.alloc (.cells #[.int .i64 (LF : Nat)] 3) = wa := ⟨_, rfl⟩
      have hba : Below w7.heap.size w7 wa := by rw [← hwa]; exact new_below _ _
      have HDa := boxed (below_step HD7.out (Nat.le_refl _) hba)
      have hsa := hba.size
      have HLN : Box ((hd0 LF).length = 1) := boxed (by obtain ⟨y, rfl⟩ : ∃ y, LF = y + 1 := ⟨LF - 1, by omega⟩; rfl)
      have HIX := boxed (HIW.out.below HDa.out)
      have HOZ : Box (NAt (fun _ => True) wa (some ⟨w7.heap.size, 0, none⟩) (hd0 LF)) := boxed (by
        obtain ⟨y, hy⟩ : ∃ y, LF = y + 1 := ⟨LF - 1, by omega⟩
        intro i hi
        rw [hy] at hi
        have : i = 0 := by simp [hd0] at hi; omega
        subst this
        refine ⟨w7.heap.size, rfl, trivial, ?_⟩
        rw [← hwa, cell_new _ _ _ _ _ rfl, hy]; rfl)
      have HGW : Box (w.grownBy wa (some xb)) := boxed (grown_trans HGV.out (below_grown HDa.out _))
      have HWS : Box (w.heap.size < wa.heap.size) := boxed (by omega)
      have HRW : Box (wa.heap[w.heap.size]? = some (.cells #[.int .i64 0, .int .i64 0, .int .i64 0] 30 (0, 0))) := boxed (by rw [HDa.out.block _ (by omega)]; exact HRV.out)
      clear HIW HGV HRV hba
      go_wp2_with fail
      refine (HPut.out _ _ _ _ _ HLN.out HIX.out HOZ.out).mono ?_
      rintro e w10 ⟨rfl, a10, c10, hx10, hn10, hg10⟩
      have HG10 := boxed (grown_trans HGW.out hg10)
      have HR10 : Box (w10.heap[w.heap.size]? = some (.cells #[.int .i64 0, .int .i64 0, .int .i64 0] 30 (0, 0))) := boxed (by rw [hg10.block w.heap.size HWS.out (by intro e; injection e; omega)]; exact HRW.out)
      obtain ⟨⟨d0, d1, d2⟩, g0, g1, g2⟩ := cells3 HR10.out
      have HT := put3_all HR10.out (.int .i64 (p : Nat)) (.int .i64 (O : Nat)) (.int .i64 1)
      have HX11 := boxed (IxAt.other hx10 hn10 HT.2.1 HWS.out (by omega))
      have HG11 := boxed (grown_new HG10.out HT.2.1 (Nat.le_refl _))
      obtain ⟨⟨q0, q1, q2⟩, -, -⟩ := HT
      have HR := boxed (And.intro q0 (And.intro q1 q2))
      have HWS2 := boxed (Nat.le_of_lt HWS.out)
      clear q0 q1 q2 hx10 hn10 hg10 HPut HIX HOZ
      go_wp2
      refine bodyPost_ret (v := .tuple #[.agg #[.int .i64 (p : Nat), .int .i64 (O : Nat), .int .i64 1], .int .i64 0]) (by simp [results, Try.results21, go_sem, HR.out.1, HR.out.2.1, HR.out.2.2]) rfl ?_
      exact ⟨by rw [HLN.out]; rfl, HG11.out, a10, c10, by rw [TxAt, HFI.out.1, HFI.out.2]; exact HX11.out.1, .inr (by rw [HFI.out.1]; exact HX11.out.2.keep (fun b i u hs hc => ⟨Nat.le_trans HWS2.out hs, hc⟩))⟩
  · have tE : ((b : Int) == (l.length : Int)) = false := by rw [beq_eq_false_iff_ne]; omega
    have tE' : (b == l.length) = false := by rw [beq_eq_false_iff_ne]; exact hend
    have HFI : Box (sp (l.take a ++ l.drop b) = (sp l).take p ++ hd0 LF ++ (sp l).drop R ∧ op (l.take a ++ l.drop b) = op l) := boxed ⟨HF1.out, by have := HF2.out; rw [if_neg hend] at this; exact this⟩
    have hbl : b < l.length := by omega
    clear hend HF1 HF2
    by_cases hah : 0 < AH
    · have tA : decide ((0 : Int) < (AH : Int)) = true := decide_eq_true (by omega)
      have tA' : decide (0 < AH) = true := decide_eq_true (by omega)
      have HBG := boxed (HB2.out _ HD5.out)
      by_cases hq2 : b = BQ
      · have tQ : ((b : Int) == (BQ : Int)) = true := by rw [beq_iff_eq]; omega
        have tQ' : (b == BQ) = true := by rw [beq_iff_eq]; exact hq2
        have eO : (O0 : Int) + 1 = (O : Int) := by have := hoo.out; rw [if_pos ⟨⟨hah, hq2⟩, hbl⟩] at this; omega
        have hOb : O ≤ 65537 := by have := hR.out; omega
        replace hq2 := boxed hq2
        go_wp2_with fail
        refine HBG.out.mono ?_
        rintro e wq ⟨rfl, hb6⟩
        have HD6 := boxed (below_step HD5.out (Nat.le_refl _) hb6)
        clear hb6 HBG HD5 HB2
        have HIW := boxed (HII.out _ HD6.out)
        have HGV : Box (w.grownBy wq (some xb)) := boxed (below_grown (HB0.out.trans (HD6.out.mono (by omega))) _)
        have HRV := boxed (HN.out _ HD6.out)
        have hsW : w.heap.size < wq.heap.size := by have := HD6.out.size; omega
        clear HII
        go_wp2_with fail
        have hBG := begin_any HIW.out R hRle
        rw [hBR.out] at hBG
        refine hBG.mono ?_
        rintro e w7 ⟨rfl, hb7⟩
        have HD7 := boxed hb7
        clear hBG
        have hs7 := hb7.size
        clear hb7
        by_cases hl0 : LF = 0
        · have HLN : Box ((hd0 LF).length = 0) := boxed (by rw [hl0]; rfl)
          have HIX := boxed (HIW.out.below HD7.out)
          have HOZ : Box (NAt (fun _ => True) w7 none (hd0 LF)) := boxed (by rw [hl0]; intro i hi; exact absurd hi (by simp [hd0]))
          have HGW : Box (w.grownBy w7 (some xb)) := boxed (grown_trans HGV.out (below_grown HD7.out _))
          have HWS : Box (w.heap.size < w7.heap.size) := boxed (by omega)
          have HRW : Box (w7.heap[w.heap.size]? = some (.cells #[.int .i64 0, .int .i64 0, .int .i64 0] 30 (0, 0))) := boxed (by rw [HD7.out.block _ (by omega)]; exact HRV.out)
          have eL : (AH : Int) + ((BR : Nat) : Int) - (b : Int) = 0 := by have := hlf.out; omega
          clear HIW HGV HRV
          go_wp2_with fail
          refine (HPut.out _ _ _ _ _ HLN.out HIX.out HOZ.out).mono ?_
          rintro e w10 ⟨rfl, a10, c10, hx10, hn10, hg10⟩
          have HG10 := boxed (grown_trans HGW.out hg10)
          have HR10 : Box (w10.heap[w.heap.size]? = some (.cells #[.int .i64 0, .int .i64 0, .int .i64 0] 30 (0, 0))) := boxed (by rw [hg10.block w.heap.size HWS.out (by intro e; injection e; omega)]; exact HRW.out)
          obtain ⟨⟨d0, d1, d2⟩, g0, g1, g2⟩ := cells3 HR10.out
          have HT := put3_all HR10.out (.int .i64 (p : Nat)) (.int .i64 (O : Nat)) (.int .i64 0)
          have HX11 := boxed (IxAt.other hx10 hn10 HT.2.1 HWS.out (by omega))
          have HG11 := boxed (grown_new HG10.out HT.2.1 (Nat.le_refl _))
          obtain ⟨⟨q0, q1, q2⟩, -, -⟩ := HT
          have HR := boxed (And.intro q0 (And.intro q1 q2))
          have HWS2 := boxed (Nat.le_of_lt HWS.out)
          clear q0 q1 q2 hx10 hn10 hg10 HPut HIX HOZ
          go_wp2
          refine bodyPost_ret (v := .tuple #[.agg #[.int .i64 (p : Nat), .int .i64 (O : Nat), .int .i64 0], .int .i64 0]) (by simp [results, Try.results21, go_sem, HR.out.1, HR.out.2.1, HR.out.2.2]) rfl ?_
          exact ⟨by rw [HLN.out]; rfl, HG11.out, a10, c10, by rw [TxAt, HFI.out.1, HFI.out.2]; exact HX11.out.1, .inr (by rw [HFI.out.1]; exact HX11.out.2.keep (fun b i u hs hc => ⟨Nat.le_trans HWS2.out hs, hc⟩))⟩
        · have tL : decide ((0 : Int) < (LF : Int)) = true := decide_eq_true (by omega)
          have tL' : decide (0 < LF) = true := decide_eq_true (by omega)
          have eL : (AH : Int) + ((BR : Nat) : Int) - (b : Int) = (LF : Int) := by have := hlf.out; omega
          obtain ⟨wa, hwa⟩ : ∃ wa, w7.alloc (.cells #[.int .i64 (LF : Nat)] 3) = wa := ⟨_, rfl⟩
          have hba : Below w7.heap.size w7 wa := by rw [← hwa]; exact new_below _ _
          have HDa := boxed (below_step HD7.out (Nat.le_refl _) hba)
          have hsa := hba.size
          have HLN : Box ((hd0 LF).length = 1) := boxed (by obtain ⟨y, rfl⟩ : ∃ y, LF = y + 1 := ⟨LF - 1, by omega⟩; rfl)
          have HIX := boxed (HIW.out.below HDa.out)
          have HOZ : Box (NAt (fun _ => True) wa (some ⟨w7.heap.size, 0, none⟩) (hd0 LF)) := boxed (by
            obtain ⟨y, hy⟩ : ∃ y, LF = y + 1 := ⟨LF - 1, by omega⟩
            intro i hi
            rw [hy] at hi
            have : i = 0 := by simp [hd0] at hi; omega
            subst this
            refine ⟨w7.heap.size, rfl, trivial, ?_⟩
            rw [← hwa, cell_new _ _ _ _ _ rfl, hy]; rfl)
          have HGW : Box (w.grownBy wa (some xb)) := boxed (grown_trans HGV.out (below_grown HDa.out _))
          have HWS : Box (w.heap.size < wa.heap.size) := boxed (by omega)
          have HRW : Box (wa.heap[w.heap.size]? = some (.cells #[.int .i64 0, .int .i64 0, .int .i64 0] 30 (0, 0))) := boxed (by rw [HDa.out.block _ (by omega)]; exact HRV.out)
          clear HIW HGV HRV hba
          go_wp2_with fail
          refine (HPut.out _ _ _ _ _ HLN.out HIX.out HOZ.out).mono ?_
          rintro e w10 ⟨rfl, a10, c10, hx10, hn10, hg10⟩
          have HG10 := boxed (grown_trans HGW.out hg10)
          have HR10 : Box (w10.heap[w.heap.size]? = some (.cells #[.int .i64 0, .int .i64 0, .int .i64 0] 30 (0, 0))) := boxed (by rw [hg10.block w.heap.size HWS.out (by intro e; injection e; omega)]; exact HRW.out)
          obtain ⟨⟨d0, d1, d2⟩, g0, g1, g2⟩ := cells3 HR10.out
          have HT := put3_all HR10.out (.int .i64 (p : Nat)) (.int .i64 (O : Nat)) (.int .i64 1)
          have HX11 := boxed (IxAt.other hx10 hn10 HT.2.1 HWS.out (by omega))
          have HG11 := boxed (grown_new HG10.out HT.2.1 (Nat.le_refl _))
          obtain ⟨⟨q0, q1, q2⟩, -, -⟩ := HT
          have HR := boxed (And.intro q0 (And.intro q1 q2))
          have HWS2 := boxed (Nat.le_of_lt HWS.out)
          clear q0 q1 q2 hx10 hn10 hg10 HPut HIX HOZ
          go_wp2
          refine bodyPost_ret (v := .tuple #[.agg #[.int .i64 (p : Nat), .int .i64 (O : Nat), .int .i64 1], .int .i64 0]) (by simp [results, Try.results21, go_sem, HR.out.1, HR.out.2.1, HR.out.2.2]) rfl ?_
          exact ⟨by rw [HLN.out]; rfl, HG11.out, a10, c10, by rw [TxAt, HFI.out.1, HFI.out.2]; exact HX11.out.1, .inr (by rw [HFI.out.1]; exact HX11.out.2.keep (fun b i u hs hc => ⟨Nat.le_trans HWS2.out hs, hc⟩))⟩
      · have tQ : ((b : Int) == (BQ : Int)) = false := by rw [beq_eq_false_iff_ne]; omega
        have tQ' : (b == BQ) = false := by rw [beq_eq_false_iff_ne]; exact hq2
        obtain rfl : O = O0 := by have := hoo.out; rw [if_neg (by omega)] at this; omega
        obtain rfl : R = R0 := by have := hR.out; have := hR0.out; have := hO0.out; omega
        go_wp2_with fail
        refine HBG.out.mono ?_
        rintro e wq ⟨rfl, hb6⟩
        have HD6 := boxed (below_step HD5.out (Nat.le_refl _) hb6)
        clear hb6 HBG HD5 HB2
        have HIW := boxed (HII.out _ HD6.out)
        have HGV : Box (w.grownBy wq (some xb)) := boxed (below_grown (HB0.out.trans (HD6.out.mono (by omega))) _)
        have HRV := boxed (HN.out _ HD6.out)
        have hsW : w.heap.size < wq.heap.size := by have := HD6.out.size; omega
        clear HII
        go_wp2_with fail
        have hBG := begin_any HIW.out R hRle
        rw [hBR.out] at hBG
        refine hBG.mono ?_
        rintro e w7 ⟨rfl, hb7⟩
        have HD7 := boxed hb7
        clear hBG
        have hs7 := hb7.size
        clear hb7
        by_cases hl0 : LF = 0
        · have HLN : Box ((hd0 LF).length = 0) := boxed (by rw [hl0]; rfl)
          have HIX := boxed (HIW.out.below HD7.out)
          have HOZ : Box (NAt (fun _ => True) w7 none (hd0 LF)) := boxed (by rw [hl0]; intro i hi; exact absurd hi (by simp [hd0]))
          have HGW : Box (w.grownBy w7 (some xb)) := boxed (grown_trans HGV.out (below_grown HD7.out _))
          have HWS : Box (w.heap.size < w7.heap.size) := boxed (by omega)
          have HRW : Box (w7.heap[w.heap.size]? = some (.cells #[.int .i64 0, .int .i64 0, .int .i64 0] 30 (0, 0))) := boxed (by rw [HD7.out.block _ (by omega)]; exact HRV.out)
          have eL : (AH : Int) + ((BR : Nat) : Int) - (b : Int) = 0 := by have := hlf.out; omega
          clear HIW HGV HRV
          go_wp2_with fail
          refine (HPut.out _ _ _ _ _ HLN.out HIX.out HOZ.out).mono ?_
          rintro e w10 ⟨rfl, a10, c10, hx10, hn10, hg10⟩
          have HG10 := boxed (grown_trans HGW.out hg10)
          have HR10 : Box (w10.heap[w.heap.size]? = some (.cells #[.int .i64 0, .int .i64 0, .int .i64 0] 30 (0, 0))) := boxed (by rw [hg10.block w.heap.size HWS.out (by intro e; injection e; omega)]; exact HRW.out)
          obtain ⟨⟨d0, d1, d2⟩, g0, g1, g2⟩ := cells3 HR10.out
          have HT := put3_all HR10.out (.int .i64 (p : Nat)) (.int .i64 (O : Nat)) (.int .i64 0)
          have HX11 := boxed (IxAt.other hx10 hn10 HT.2.1 HWS.out (by omega))
          have HG11 := boxed (grown_new HG10.out HT.2.1 (Nat.le_refl _))
          obtain ⟨⟨q0, q1, q2⟩, -, -⟩ := HT
          have HR := boxed (And.intro q0 (And.intro q1 q2))
          have HWS2 := boxed (Nat.le_of_lt HWS.out)
          clear q0 q1 q2 hx10 hn10 hg10 HPut HIX HOZ
          go_wp2
          refine bodyPost_ret (v := .tuple #[.agg #[.int .i64 (p : Nat), .int .i64 (O : Nat), .int .i64 0], .int .i64 0]) (by simp [results, Try.results21, go_sem, HR.out.1, HR.out.2.1, HR.out.2.2]) rfl ?_
          exact ⟨by rw [HLN.out]; rfl, HG11.out, a10, c10, by rw [TxAt, HFI.out.1, HFI.out.2]; exact HX11.out.1, .inr (by rw [HFI.out.1]; exact HX11.out.2.keep (fun b i u hs hc => ⟨Nat.le_trans HWS2.out hs, hc⟩))⟩
        · have tL : decide ((0 : Int) < (LF : Int)) = true := decide_eq_true (by omega)
          have tL' : decide (0 < LF) = true := decide_eq_true (by omega)
          have eL : (AH : Int) + ((BR : Nat) : Int) - (b : Int) = (LF : Int) := by have := hlf.out; omega
          obtain ⟨wa, hwa⟩ : ∃ wa, w7.alloc (.cells #[.int .i64 (LF : Nat)] 3) = wa := ⟨_, rfl⟩
          have hba : Below w7.heap.size w7 wa := by rw [← hwa]; exact new_below _ _
          have HDa := boxed (below_step HD7.out (Nat.le_refl _) hba)
          have hsa := hba.size
          have HLN : Box ((hd0 LF).length = 1) := boxed (by obtain ⟨y, rfl⟩ : ∃ y, LF = y + 1 := ⟨LF - 1, by omega⟩; rfl)
          have HIX := boxed (HIW.out.below HDa.out)
          have HOZ : Box (NAt (fun _ => True) wa (some ⟨w7.heap.size, 0, none⟩) (hd0 LF)) := boxed (by
            obtain ⟨y, hy⟩ : ∃ y, LF = y + 1 := ⟨LF - 1, by omega⟩
            intro i hi
            rw [hy] at hi
            have : i = 0 := by simp [hd0] at hi; omega
            subst this
            refine ⟨w7.heap.size, rfl, trivial, ?_⟩
            rw [← hwa, cell_new _ _ _ _ _ rfl, hy]; rfl)
          have HGW : Box (w.grownBy wa (some xb)) := boxed (grown_trans HGV.out (below_grown HDa.out _))
          have HWS : Box (w.heap.size < wa.heap.size) := boxed (by omega)
          have HRW : Box (wa.heap[w.heap.size]? = some (.cells #[.int .i64 0, .int .i64 0, .int .i64 0] 30 (0, 0))) := boxed (by rw [HDa.out.block _ (by omega)]; exact HRV.out)
          clear HIW HGV HRV hba
          go_wp2_with fail
          refine (HPut.out _ _ _ _ _ HLN.out HIX.out HOZ.out).mono ?_
          rintro e w10 ⟨rfl, a10, c10, hx10, hn10, hg10⟩
          have HG10 := boxed (grown_trans HGW.out hg10)
          have HR10 : Box (w10.heap[w.heap.size]? = some (.cells #[.int .i64 0, .int .i64 0, .int .i64 0] 30 (0, 0))) := boxed (by rw [hg10.block w.heap.size HWS.out (by intro e; injection e; omega)]; exact HRW.out)
          obtain ⟨⟨d0, d1, d2⟩, g0, g1, g2⟩ := cells3 HR10.out
          have HT := put3_all HR10.out (.int .i64 (p : Nat)) (.int .i64 (O : Nat)) (.int .i64 1)
          have HX11 := boxed (IxAt.other hx10 hn10 HT.2.1 HWS.out (by omega))
          have HG11 := boxed (grown_new HG10.out HT.2.1 (Nat.le_refl _))
          obtain ⟨⟨q0, q1, q2⟩, -, -⟩ := HT
          have HR := boxed (And.intro q0 (And.intro q1 q2))
          have HWS2 := boxed (Nat.le_of_lt HWS.out)
          clear q0 q1 q2 hx10 hn10 hg10 HPut HIX HOZ
          go_wp2
          refine bodyPost_ret (v := .tuple #[.agg #[.int .i64 (p : Nat), .int .i64 (O : Nat), .int .i64 1], .int .i64 0]) (by simp [results, Try.results21, go_sem, HR.out.1, HR.out.2.1, HR.out.2.2]) rfl ?_
          exact ⟨by rw [HLN.out]; rfl, HG11.out, a10, c10, by rw [TxAt, HFI.out.1, HFI.out.2]; exact HX11.out.1, .inr (by rw [HFI.out.1]; exact HX11.out.2.keep (fun b i u hs hc => ⟨Nat.le_trans HWS2.out hs, hc⟩))⟩
    · have tA : decide ((0 : Int) < (AH : Int)) = false := decide_eq_false (by omega)
      have tA' : decide (0 < AH) = false := decide_eq_false (by omega)
      obtain rfl : O = O0 := by have := hoo.out; rw [if_neg (by omega)] at this; omega
      obtain rfl : R = R0 := by have := hR.out; have := hR0.out; have := hO0.out; omega
      have HIW := boxed (HII.out _ HD5.out)
      have HGV : Box (w.grownBy w5 (some xb)) := boxed (below_grown (HB0.out.trans (HD5.out.mono (by omega))) _)
      have HRV := boxed (HN.out _ HD5.out)
      have hsW : w.heap.size < w5.heap.size := by have := HD5.out.size; omega
      clear HII HB2 HD5
      go_wp2_with fail
      have hBG := begin_any HIW.out R hRle
      rw [hBR.out] at hBG
      refine hBG.mono ?_
      rintro e w7 ⟨rfl, hb7⟩
      have HD7 := boxed hb7
      clear hBG
      have hs7 := hb7.size
      clear hb7
      by_cases hl0 : LF = 0
      · have HLN : Box ((hd0 LF).length = 0) := boxed (by rw [hl0]; rfl)
        have HIX := boxed (HIW.out.below HD7.out)
        have HOZ : Box (NAt (fun _ => True) w7 none (hd0 LF)) := boxed (by rw [hl0]; intro i hi; exact absurd hi (by simp [hd0]))
        have HGW : Box (w.grownBy w7 (some xb)) := boxed (grown_trans HGV.out (below_grown HD7.out _))
        have HWS : Box (w.heap.size < w7.heap.size) := boxed (by omega)
        have HRW : Box (w7.heap[w.heap.size]? = some (.cells #[.int .i64 0, .int .i64 0, .int .i64 0] 30 (0, 0))) := boxed (by rw [HD7.out.block _ (by omega)]; exact HRV.out)
        have eL : (AH : Int) + ((BR : Nat) : Int) - (b : Int) = 0 := by have := hlf.out; omega
        clear HIW HGV HRV
        go_wp2_with fail
        refine (HPut.out _ _ _ _ _ HLN.out HIX.out HOZ.out).mono ?_
        rintro e w10 ⟨rfl, a10, c10, hx10, hn10, hg10⟩
        have HG10 := boxed (grown_trans HGW.out hg10)
        have HR10 : Box (w10.heap[w.heap.size]? = some (.cells #[.int .i64 0, .int .i64 0, .int .i64 0] 30 (0, 0))) := boxed (by rw [hg10.block w.heap.size HWS.out (by intro e; injection e; omega)]; exact HRW.out)
        obtain ⟨⟨d0, d1, d2⟩, g0, g1, g2⟩ := cells3 HR10.out
        have HT := put3_all HR10.out (.int .i64 (p : Nat)) (.int .i64 (O : Nat)) (.int .i64 0)
        have HX11 := boxed (IxAt.other hx10 hn10 HT.2.1 HWS.out (by omega))
        have HG11 := boxed (grown_new HG10.out HT.2.1 (Nat.le_refl _))
        obtain ⟨⟨q0, q1, q2⟩, -, -⟩ := HT
        have HR := boxed (And.intro q0 (And.intro q1 q2))
        have HWS2 := boxed (Nat.le_of_lt HWS.out)
        clear q0 q1 q2 hx10 hn10 hg10 HPut HIX HOZ
        go_wp2
        refine bodyPost_ret (v := .tuple #[.agg #[.int .i64 (p : Nat), .int .i64 (O : Nat), .int .i64 0], .int .i64 0]) (by simp [results, Try.results21, go_sem, HR.out.1, HR.out.2.1, HR.out.2.2]) rfl ?_
        exact ⟨by rw [HLN.out]; rfl, HG11.out, a10, c10, by rw [TxAt, HFI.out.1, HFI.out.2]; exact HX11.out.1, .inr (by rw [HFI.out.1]; exact HX11.out.2.keep (fun b i u hs hc => ⟨Nat.le_trans HWS2.out hs, hc⟩))⟩
      · have tL : decide ((0 : Int) < (LF : Int)) = true := decide_eq_true (by omega)
        have tL' : decide (0 < LF) = true := decide_eq_true (by omega)
        have eL : (AH : Int) + ((BR : Nat) : Int) - (b : Int) = (LF : Int) := by have := hlf.out; omega
        obtain ⟨wa, hwa⟩ : ∃ wa, w7.alloc (.cells #[.int .i64 (LF : Nat)] 3) = wa := ⟨_, rfl⟩
        have hba : Below w7.heap.size w7 wa := by rw [← hwa]; exact new_below _ _
        have HDa := boxed (below_step HD7.out (Nat.le_refl _) hba)
        have hsa := hba.size
        have HLN : Box ((hd0 LF).length = 1) := boxed (by obtain ⟨y, rfl⟩ : ∃ y, LF = y + 1 := ⟨LF - 1, by omega⟩; rfl)
        have HIX := boxed (HIW.out.below HDa.out)
        have HOZ : Box (NAt (fun _ => True) wa (some ⟨w7.heap.size, 0, none⟩) (hd0 LF)) := boxed (by
          obtain ⟨y, hy⟩ : ∃ y, LF = y + 1 := ⟨LF - 1, by omega⟩
          intro i hi
          rw [hy] at hi
          have : i = 0 := by simp [hd0] at hi; omega
          subst this
          refine ⟨w7.heap.size, rfl, trivial, ?_⟩
          rw [← hwa, cell_new _ _ _ _ _ rfl, hy]; rfl)
        have HGW : Box (w.grownBy wa (some xb)) := boxed (grown_trans HGV.out (below_grown HDa.out _))
        have HWS : Box (w.heap.size < wa.heap.size) := boxed (by omega)
        have HRW : Box (wa.heap[w.heap.size]? = some (.cells #[.int .i64 0, .int .i64 0, .int .i64 0] 30 (0, 0))) := boxed (by rw [HDa.out.block _ (by omega)]; exact HRV.out)
        clear HIW HGV HRV hba
        go_wp2_with fail
        refine (HPut.out _ _ _ _ _ HLN.out HIX.out HOZ.out).mono ?_
        rintro e w10 ⟨rfl, a10, c10, hx10, hn10, hg10⟩
        have HG10 := boxed (grown_trans HGW.out hg10)
        have HR10 : Box (w10.heap[w.heap.size]? = some (.cells #[.int .i64 0, .int .i64 0, .int .i64 0] 30 (0, 0))) := boxed (by rw [hg10.block w.heap.size HWS.out (by intro e; injection e; omega)]; exact HRW.out)
        obtain ⟨⟨d0, d1, d2⟩, g0, g1, g2⟩ := cells3 HR10.out
        have HT := put3_all HR10.out (.int .i64 (p : Nat)) (.int .i64 (O : Nat)) (.int .i64 1)
        have HX11 := boxed (IxAt.other hx10 hn10 HT.2.1 HWS.out (by omega))
        have HG11 := boxed (grown_new HG10.out HT.2.1 (Nat.le_refl _))
        obtain ⟨⟨q0, q1, q2⟩, -, -⟩ := HT
        have HR := boxed (And.intro q0 (And.intro q1 q2))
        have HWS2 := boxed (Nat.le_of_lt HWS.out)
        clear q0 q1 q2 hx10 hn10 hg10 HPut HIX HOZ
        go_wp2
        refine bodyPost_ret (v := .tuple #[.agg #[.int .i64 (p : Nat), .int .i64 (O : Nat), .int .i64 1], .int .i64 0]) (by simp [results, Try.results21, go_sem, HR.out.1, HR.out.2.1, HR.out.2.2]) rfl ?_
        exact ⟨by rw [HLN.out]; rfl, HG11.out, a10, c10, by rw [TxAt, HFI.out.1, HFI.out.2]; exact HX11.out.1, .inr (by rw [HFI.out.1]; exact HX11.out.2.keep (fun b i u hs hc => ⟨Nat.le_trans HWS2.out hs, hc⟩))⟩
end
end Go.Proofs.Ytholifolkimkdaa
