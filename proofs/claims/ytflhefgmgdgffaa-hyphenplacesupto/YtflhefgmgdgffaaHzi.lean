/-
  What the document's Places answers.
-/
import Derived.Test.YtflhefgmgdgffaaHzf
import Derived.Test.YtflhefgmgdgffaaHzc
import Derived.Test.YtflhefgmgdgffaaHyw
namespace Go.Proofs.Ytflhefgmgdgffaa
open Go.RowKit Go.Maps
set_option linter.unusedSimpArgs false
set_option linter.unusedVariables false

set_option maxRecDepth 100000 in
set_option maxHeartbeats 3200000 in
theorem runes_new (s : ByteArray) (w : World) (hs : s.size ≤ 1048576) (N : Nat) (hN : Cnt s N) :
    Calls Try.prog 31 #[.string s] w fun e w' => ∃ ao1 c1 ao2 c2, e = .returned (.tuple #[.slice ao1 N c1, .slice ao2 N c2, .int .i64 (badAt s N)]) ∧
      Dg w' ao2 c2 (its s N) ∧ (∀ b o, ao2 = some ⟨b, o, none⟩ → w.heap.size ≤ b) ∧ Below w.heap.size w w' := by
  obtain ⟨i0, hi, hz0, hz1, hz2⟩ := info_parts info_int
  have HN := boxed hN
  have hNl : N ≤ s.size := by have := cnt_le s N hN; have := it_le s N; omega
  clear hN
  go_enter Try.func31, Try.ntmps31
  go_wp2
  go_loopw [5, 6, 7] (fun vl va i wr => ∃ k : Nat, k ≤ N ∧ i = .int .i64 (it s k) ∧ wr.ownsRow w.heap.size 3 1 vl k (vals (rns s k)) ∧ wr.ownsRow w.heap.size 3 1 va k (vals (its s k)) ∧
      (vl.ownBlock = none ∨ vl.ownBlock ≠ va.ownBlock) ∧ Below w.heap.size w wr) (fun _ _ i _ => s.size - (intOf i).toNat)
  case atStart => exact ⟨0, Nat.zero_le _, rfl, World.ownsRow_nil _ _ _ _, World.ownsRow_nil _ _ _ _, Or.inl rfl, Below.refl _ _⟩
  case round =>
    obtain ⟨k, hk, rfl, hownl, howna, hne, hbel⟩ := hrel
    have hle := it_le s k
    have hrd := refread_any s (it s k) wr hs hle
    have hnx : Box (it s (k + 1) = it s k + (dc s (it s k)).2) := boxed rfl
    have hrl := rn_le s k
    by_cases hlt : k < N
    · have hp := HN.out.1 k hlt
      have hin := dc_pos s _ hp
      have hd := dc_le s (it s k) hle
      rw [rf_pos s _ hp] at hrd
      have HRS := boxed (rns_succ s k)
      have HIS := boxed (its_succ s k)
      have HRN : Box (rn s k = (dc s (it s k)).1) := boxed rfl
      have hz : ((((dc s (it s k)).2 : Nat) : Int) == 0) = false := by rw [beq_eq_false_iff_ne]; omega
      generalize hA : it s k = A at *
      generalize dc s A = D at *
      obtain ⟨r, n⟩ := D
      simp only at *
      go_wp2_with fail
      refine hrd.mono ?_
      rintro e w1 ⟨rfl, hb1⟩
      have hownl1 := owns_below hownl hb1
      have howna1 := owns_below howna hb1
      have hbel1 : Below w.heap.size w w1 := hbel.trans (hb1.mono hbel.size)
      clear hownl howna hbel hb1 hrd
      have hsz1 := hbel1.size
      go_wp2_with (at_builtin; refine wpList_append_apart rfl _ _ 36 rfl w.heap.size 3 i0 (.int .i64 0) 1 8 Try.underlying36 hi hz0 hz1 hz2 rfl (by decide) _ _ _ rfl (hownl1.alloc _) ⟨w1.heap.size, 0, none⟩ 1 1 [.int .i64 (r : Int)] rfl rfl ?c1 ?c2 ?c3 ?c4 ?c5 ?c6 ?_)
      case c1 =>
        intro j u hj
        match j, hj with
        | 0, hj => simp at hj; subst hj; simp [Addr.add]
      case c2 => intro u hu; simp at hu; subst hu; rfl
      case c3 => unfold maxLen; omega
      case c4 => omega
      case c5 => simp; omega
      case c6 => omega
      intro v' w2 hown2 hgrow2 hwh2
      have hsz2 : w1.heap.size < w2.heap.size := by have := hgrow2.size; simp at this; omega
      have howna2 := (howna1.alloc _).kept hgrow2 (apart2 hne)
      have hne2 := apart1 hne (fun k hk => by have := (howna1.lt k hk).2; omega) hwh2
      have hbel2 : Below w.heap.size w w2 := (hbel1.alloc (by omega) _).grown hgrow2 (by simp; omega) (fun k hk => (hownl1.lt k hk).1)
      clear hownl1 howna1 hgrow2 hwh2 hne hbel1
      go_wp2_with (at_builtin; refine wpList_append_apart rfl _ _ 36 rfl w.heap.size 3 i0 (.int .i64 0) 1 8 Try.underlying36 hi hz0 hz1 hz2 rfl (by decide) _ _ _ rfl (howna2.alloc _) ⟨w2.heap.size, 0, none⟩ 1 1 [.int .i64 (A : Int)] rfl rfl ?e1 ?e2 ?e3 ?e4 ?e5 ?e6 ?_)
      case e1 =>
        intro j u hj
        match j, hj with
        | 0, hj => simp at hj; subst hj; simp [Addr.add]
      case e2 => intro u hu; simp at hu; subst hu; rfl
      case e3 => unfold maxLen; omega
      case e4 => omega
      case e5 => simp; omega
      case e6 => omega
      intro v'' w3 hown3 hgrow3 hwh3
      have hownl3 := (hown2.alloc _).kept hgrow3 hne2
      have hne3 := apart3 hne2 (fun k hk => by have := (hown2.lt k hk).2; omega) hwh3
      have hbel3 : Below w.heap.size w w3 := (hbel2.alloc (by omega) _).grown hgrow3 (by simp; omega) (fun k hk => (howna2.lt k hk).1)
      rw [vals_snoc] at hown3 hownl3
      clear hown2 howna2 hgrow3 hwh3 hne2 hbel2
      go_wp2
      go_roundw
      case rel =>
        refine ⟨k + 1, by omega, by rw [hnx.out]; go_num, ?_, ?_, hne3, hbel3⟩
        · rw [HRS.out, HRN.out]; simpa using hownl3
        · rw [HIS.out]; simpa using hown3
      case measure => simp [intOf]; omega
    · have hkN : k = N := by omega
      subst hkN
      have hp := HN.out.2
      rw [rf_zero s _ hp] at hrd
      have hge := owns_ge howna
      obtain ⟨-, a1, c1, rfl, hd1⟩ := dg_of_owns hownl
      obtain ⟨-, a2, c2, rfl, hd2⟩ := dg_of_owns howna
      have HNW : Box (∀ b o, a2 = some ⟨b, o, none⟩ → w.heap.size ≤ b) := boxed (fun b o e => hge b (by rw [e]; rfl))
      have HD2 := boxed hd2
      have HB := boxed hbel
      have hl1 := rns_len s k
      have hl2 := its_len s k
      clear hd1 hd2 hbel hownl howna hne hge
      by_cases hin : it s k < s.size
      · have hb : Box (badAt s k = (it s k : Int)) := boxed (by unfold badAt; rw [if_pos hin])
        generalize it s k = A at *
        go_wp2_with fail
        refine hrd.mono ?_
        rintro e w1 ⟨rfl, hb1⟩
        have HB1 := boxed hb1
        clear hb1 hrd
        go_wp2
        go_ret3
        refine ⟨a1, c1, a2, c2, ?_, HD2.out.below HB1.out, HNW.out, HB.out.trans (HB1.out.mono HB.out.size)⟩
        rw [hb.out]
        try simp [hl1, hl2]
      · have hb : Box (badAt s k = -1) := boxed (by unfold badAt; rw [if_neg hin])
        generalize it s k = A at *
        clear hrd
        go_wp2
        go_ret3
        refine ⟨a1, c1, a2, c2, ?_, HD2.out, HNW.out, HB.out⟩
        rw [hb.out]
        try simp [hl1, hl2]
theorem Dg.grown {w w' : World} {ao : Option Addr} {cap : Nat} {l : List Nat} {row : Option Nat} (h : Dg w ao cap l) (hg : w.grownBy w' row) (hn : ∀ b o, ao = some ⟨b, o, none⟩ → row ≠ some b) : Dg w' ao cap l := by
  obtain ⟨hc, h⟩ := h
  refine ⟨hc, ?_⟩
  rcases h with h | ⟨b, off, h1, h2, h3⟩
  · exact .inl h
  · refine .inr ⟨b, off, h1, Nat.lt_of_lt_of_le h2 hg.size, fun i hi => ?_⟩
    rw [World.cell?_of_block (a := ⟨b, off + i, none⟩) (hg.block b h2 (fun e => hn b off h1 e.symm))]
    exact h3 i hi
set_option maxRecDepth 100000 in
set_option maxHeartbeats 16000000 in
theorem refplaces_any (w : World) (ao ao' : Option Addr) (n0 m0 cap cap' : Nat) (S T : Nat → ByteArray) (l r : Nat) (s : ByteArray) (hS : StrsAt w ao n0 S) (hT : StrsAt w ao' m0 T) (hn : n0 ≤ 60) (hm : m0 ≤ 60) (hokS : ∀ j, j < n0 → patT (S j) ≠ none) (hokT : ∀ j, j < m0 → wordT (T j) ≠ none) (hl : 1 ≤ l ∧ l ≤ 100) (hr : 1 ≤ r ∧ r ≤ 100) (hs : s.size ≤ 1048576) :
    Calls Try.prog 19 #[.slice ao n0 cap, .slice ao' m0 cap', .int .i64 (l : Int), .int .i64 (r : Int), .string s] w fun e w' => ∃ out v, e = .returned v ∧ w'.ownsRow w.heap.size 3 1 v out.length (vals out) ∧ PlcP (qS S n0) (yS T m0) l r s out ∧ Below w.heap.size w w' := by
  obtain ⟨i2, hi2, hz0, hz1, hz2⟩ := info_parts info_int
  have hrg := refright_any s w hs (nR s) (nR_cnt s)
  have HRB := rt_bad s
  have e0 : decide (badAt s (nR s) < 0) = rt s := by
    cases h : rt s with
    | true => exact decide_eq_true (HRB.2 h)
    | false => exact decide_eq_false (fun c => by have := HRB.1 c; rw [h] at this; cases this)
  rw [e0] at hrg
  have HPTS : Box (∀ W t, Below w.heap.size w W → t.size ≤ 1048576 → Calls Try.prog 14 #[.slice ao n0 cap, .slice ao' m0 cap', .int .i64 (l : Int), .int .i64 (r : Int), .string t] W fun e w' => ∃ out v, e = .returned v ∧ w'.ownsRow W.heap.size 3 1 v out.length (vals out) ∧ PtsS (qS S n0) (yS T m0) l r t out ∧ Below W.heap.size W w') := boxed (fun W t hW ht => refpoints_any W ao ao' n0 m0 cap cap' S T l r t (hS.below hW) (hT.below hW) hn hm hokS hokT hl hr ht)
  clear e0 HRB hS hT hokS hokT hn hm hl hr
  generalize qS S n0 = QQ at *
  generalize yS T m0 = YY at *
  cases hrt : rt s with
  | false =>
    rw [hrt] at hrg
    have HP : Box (PlcP QQ YY l r s []) := boxed (.inl ⟨hrt, rfl⟩)
    clear hrt hs
    go_enter Try.func19, Try.ntmps19
    go_wp2_with fail
    refine hrg.mono ?_
    rintro e w1 ⟨rfl, hb1⟩
    have HB1 := boxed hb1
    clear hb1 hrg
    go_wp2_with fail
    go_ret
    exact ⟨[], _, rfl, World.ownsRow_nil _ _ _ _, HP.out, HB1.out⟩
  | true =>
    rw [hrt] at hrg
    obtain ⟨f, hf⟩ := pts_fun QQ YY l r
    have HF := boxed hf
    clear hf
    have HRT := boxed hrt
    have HSZ := boxed hs
    have HRW := boxed (fun W => refwords_any s W hs hrt)
    clear hrt
    go_enter Try.func19, Try.ntmps19
    go_wp2_with fail
    refine hrg.mono ?_
    rintro e w0 ⟨rfl, hb0⟩
    have HB0 := boxed hb0
    have hws := HRW.out w0
    clear hb0 hrg HRW
    go_wp2_with fail
    refine hws.mono ?_
    rintro e w1 ⟨vw, rfl, how, hb1⟩
    have HB1 : Box (Below w.heap.size w w1) := boxed (below_step HB0.out (Nat.le_refl _) hb1)
    have HW := boxed how
    have HWL : Box ((Wds s).length ≤ 1048576) := boxed (by have := wds_len s; have := nR_le s; omega)
    have HWO := boxed (wds_ok s)
    clear hws hb1 how hs HB0
    obtain ⟨P, hP⟩ : ∃ P, Wds s = P := ⟨_, rfl⟩
    rw [hP] at HW HWL HWO
    obtain ⟨n, hn⟩ : ∃ n, P.length = n := ⟨_, rfl⟩
    have HN := boxed hn
    have HPP := boxed hP
    rw [hn] at HW HWL
    clear hn hP
    have hnb := HWL.out
    obtain ⟨wa, wc, rfl⟩ := own_shape HW.out
    go_wp2_with fail
    go_loopw [11, 13] (fun vq vk wr => ∃ k : Nat, k ≤ n ∧ vk = .int .i64 (k : Int) ∧ Box (PcOk QQ YY l r f s (P.take k)) ∧ Box (wr.ownsRow w1.heap.size 3 1 vq (plc f s (P.take k)).length (vals (plc f s (P.take k)))) ∧ Box (Below w1.heap.size w1 wr)) (fun _ vk _ => n - (intOf vk).toNat)
    case atStart => exact ⟨0, Nat.zero_le _, rfl, boxed (fun p hp => by simp at hp), boxed (World.ownsRow_nil _ _ _ _), boxed (Below.refl _ _)⟩
    case round =>
      obtain ⟨k, hk, rfl, HPC, HQ, HB2⟩ := hrel
      obtain ⟨wo, hwo⟩ : ∃ wo, wo = wr := ⟨_, rfl⟩
      subst hwo
      by_cases hlt : k < n
      · have HWr := boxed (owns_below HW.out HB2.out)
        obtain ⟨g, cap2, e1, hcap⟩ := own_cell2 HWr.out (by omega)
        injection e1 with e1 e2 e3
        subst e1
        clear e2 e3
        have hki : (k : Int) < (n : Int) := by omega
        obtain ⟨p1, p2⟩ := pvals_get P k (by rw [HN.out]; exact hlt)
        have c1 := HWr.out.cellAt (k * 2) (by omega)
        have c2 := HWr.out.cellAt (k * 2 + 1) (by omega)
        rw [p1] at c1
        rw [p2] at c2
        have HTK : Box (P.take (k + 1) = P.take k ++ [P.getD k (0, 0)]) := boxed (by
          have hh : k < P.length := by rw [HN.out]; exact hlt
          rw [List.take_add_one, List.getElem?_eq_getElem hh, List.getD_eq_getElem?_getD, List.getElem?_eq_getElem hh]; rfl)
        have hbd : (P.getD k (0, 0)).1 ≤ (P.getD k (0, 0)).2 ∧ (P.getD k (0, 0)).2 ≤ s.size := by
          have hh : k < P.length := by rw [HN.out]; exact hlt
          refine HWO.out _ ?_
          rw [List.getD_eq_getElem?_getD, List.getElem?_eq_getElem hh]; exact List.getElem_mem hh
        have HX1 := boxed p1
        generalize P.getD k (0, 0) = pr at *
        obtain ⟨x, y⟩ := pr
        simp only at c1 c2 hbd p1 p2
        have hct := fun W => str_cut s x y hbd.1 hbd.2 W
        have HTX : Box (s.extract x y = wtx s (x, y)) := boxed rfl
        have hts : (s.extract x y).size ≤ 1048576 := by have := wtx_size s (x, y) hbd; have := HSZ.out; unfold wtx at *; simp only at *; omega
        have HPL := boxed (fun (out : List Nat) (h : PtsS QQ YY l r (wtx s (x, y)) out) => pcok_snoc HF.out HPC.out h)
        have HPS : Box (∀ out : List Nat, PtsS QQ YY l r (wtx s (x, y)) out → plc f s (P.take (k + 1)) = plc f s (P.take k) ++ out.map fun m => x + it (wtx s (x, y)) m) := boxed (fun out h => by
          rw [HTK.out, plc_snoc]; unfold plw; rw [← HF.out _ _ h])
        have HLN := boxed (plc_len HPC.out)
        have HXB : Box (∀ m, x + it (wtx s (x, y)) m ≤ 1048576) := boxed (fun m => by
          have := it_le (wtx s (x, y)) m; have := wtx_size s (x, y) hbd; have := HSZ.out; simp only at *; omega)
        have hl1 := (HTK.out ▸ HPL.out : ∀ out : List Nat, PtsS QQ YY l r (wtx s (x, y)) out → PcOk QQ YY l r f s (P.take (k + 1)))
        have HPL2 := boxed hl1
        have htl : (P.take k).length ≤ 1048576 := by rw [List.length_take]; omega
        clear hl1 HPL HTK p1 p2
        rw [HTX.out] at hct hts
        obtain ⟨PK, hPK⟩ : ∃ PK, plc f s (P.take k) = PK := ⟨_, rfl⟩
        rw [hPK] at HQ HPS HLN
        have hxy : 0 ≤ (x : Int) ∧ (x : Int) ≤ (y : Int) := by omega
        have HTT := boxed hts
        clear hPK HTX hbd
        generalize wtx s (x, y) = t at *
        go_wp2_with fail
        go_quiet (fail)
        clear c1 c2 hct hxy
        obtain ⟨wq, hwq⟩ : ∃ wq, wo.drewN nq = wq := ⟨_, rfl⟩
        have hbq : Below wo.heap.size wo wq := by rw [← hwq]; exact bel_drewN _ _ _
        rw [hwq]
        have HBQ : Box (Below w1.heap.size w1 wq) := boxed (below_step HB2.out (Nat.le_refl _) hbq)
        have HQQ := boxed (owns_below HQ.out hbq)
        have hru := runes_new t wq HTT.out (nR t) (nR_cnt t)
        have HNT := boxed (its_len t (nR t))
        have HGT := boxed (fun j h => its_get t (nR t) j h)
        have hnt := nR_le t
        clear hwq hbq HQ HB2 HWr
        generalize badAt t (nR t) = bad at *
        go_wp2_with fail
        refine hru.mono ?_
        rintro e w2 ⟨aa1, ca1, aa2, ca2, rfl, hd2, hnew2, hb2⟩
        have HB2 : Box (Below w1.heap.size w1 w2) := boxed (below_step HBQ.out (Nat.le_refl _) hb2)
        have HQ2 := boxed (owns_below HQQ.out hb2)
        have HD2 := boxed hd2
        have HA2 : Box (∀ b o, aa2 = some ⟨b, o, none⟩ → u11.ownBlock ≠ some b) := boxed (fun b o e c => by
          have := hnew2 b o e
          have := (HQQ.out.lt b c).2
          omega)
        have hpt := HPTS.out w2 t (HB1.out.trans (HB2.out.mono HB1.out.size)) HTT.out
        clear hru hb2 hd2 hnew2 HQQ HBQ
        go_wp2_with fail
        refine hpt.mono ?_
        rintro e w3 ⟨out, vp, rfl, hop, hps, hb3⟩
        have HPO := boxed (pts_in hps)
        have HPE := boxed (HPS.out out hps)
        have HPC2 := boxed (HPL2.out out hps)
        have HB3 : Box (Below w1.heap.size w1 w3) := boxed (below_step HB2.out (Nat.le_refl _) hb3)
        have HQ3 := boxed (owns_below HQ2.out hb3)
        have HD3 := boxed (HD2.out.below hb3)
        have HP3 := boxed hop
        have HAP : Box (vp.ownBlock = none ∨ vp.ownBlock ≠ u11.ownBlock) := boxed (by
          cases c : vp.ownBlock with
          | none => exact .inl rfl
          | some b =>
            right
            intro e
            have h1 := owns_ge hop b c
            have h2 := (HQ2.out.lt b e.symm).2
            omega)
        have HS23 := boxed hb3.size
        clear hpt hb3 hop hps HPS HPL2 HQ2 HD2
        obtain ⟨m, hm⟩ : ∃ m, out.length = m := ⟨_, rfl⟩
        have HM := boxed hm
        have hm256 : m ≤ 256 := by have := HPO.out.1; omega
        rw [hm] at HP3
        obtain ⟨po, pc, rfl⟩ := own_shape HP3.out
        obtain ⟨M, hM⟩ : ∃ M, (out.map fun m => x + it t m) = M := ⟨_, rfl⟩
        rw [hM] at HPE
        have HMM := boxed hM
        have HML : Box (M.length = m) := boxed (by rw [← hM, List.length_map]; exact hm)
        clear hm hM
        generalize nR t = N at *
        go_wp2_with fail
        go_loopw [11, 19] (fun vq vj wr => ∃ j : Nat, j ≤ m ∧ vj = .int .i64 (j : Int) ∧ Box (wr.ownsRow w1.heap.size 3 1 vq (PK ++ M.take j).length (vals (PK ++ M.take j))) ∧ Box (wr.ownsRow w2.heap.size 3 1 (.slice po m pc) m (vals out)) ∧ Box ((Value.slice po m pc).ownBlock = none ∨ (Value.slice po m pc).ownBlock ≠ vq.ownBlock) ∧ Box (Dg wr aa2 ca2 (its t N)) ∧ Box (∀ b o, aa2 = some ⟨b, o, none⟩ → vq.ownBlock ≠ some b) ∧ Box (Below w1.heap.size w1 wr) ∧ w3.heap.size ≤ wr.heap.size) (fun _ vj _ => m - (intOf vj).toNat)
        case atStart => exact ⟨0, Nat.zero_le _, rfl, boxed (by simpa using HQ3.out), HP3, HAP, HD3, HA2, HB3, Nat.le_refl _⟩
        case round =>
          clear HQ3 HP3 HAP HD3 HA2 HB3
          obtain ⟨j, hj, rfl, HQ4, HP4, HAP4, HD4, HA4, HB4, hsz4⟩ := hrel
          by_cases hjm : j < m
          · obtain ⟨gp, pc', e1, -, hcl, -⟩ := own_cell HP4.out j hjm
            injection e1 with e1 e2 e3
            subst e1
            clear e2 e3
            rw [vals_get _ _ (by rw [HM.out]; exact hjm)] at hcl
            have hin := (HPO.out.2.2 (out.getD j 0) (getD_mem out j (by rw [HM.out]; exact hjm))).2
            obtain ⟨b2, off2, rfl, hbl2, hat0⟩ := HD4.out.at (by rw [HNT.out]; omega)
            have hat := hat0 (out.getD j 0) (by rw [HNT.out]; exact hin)
            rw [HGT.out _ hin] at hat
            have hgm : M.getD j 0 = x + it t (out.getD j 0) := by
              rw [← HMM.out]
              have hh : j < out.length := by rw [HM.out]; exact hjm
              simp [List.getD_eq_getElem?_getD, hh]
            have HMS : Box (PK ++ M.take (j + 1) = (PK ++ M.take j) ++ [x + it t (out.getD j 0)]) := boxed (by
              rw [take_snoc M j (by rw [HML.out]; exact hjm), hgm, List.append_assoc])
            have hql : (PK ++ M.take j).length ≤ 268435456 + 256 := by
              rw [List.length_append, List.length_take]
              have := HLN.out
              have : (P.take k).length * 256 ≤ 1048576 * 256 := Nat.mul_le_mul_right _ htl
              omega
            have hxs := HXB.out (out.getD j 0)
            have hji : (j : Int) < (m : Int) := by omega
            have HWr := owns_below HW.out HB4.out
            have c1 := HWr.cellAt (k * 2) (by omega)
            rw [HX1.out] at c1
            have hqN : out.getD j 0 < N := hin
            clear hin hgm hat0
            obtain ⟨q, hq⟩ : ∃ q, out.getD j 0 = q := ⟨_, rfl⟩
            rw [hq] at hcl hat HMS hxs hqN
            clear hq
            obtain ⟨A, hA⟩ : ∃ A, it t q = A := ⟨_, rfl⟩
            rw [hA] at hat HMS hxs
            clear hA
            obtain ⟨U, hU⟩ : ∃ U, x + A = U := ⟨_, rfl⟩
            rw [hU] at HMS hxs
            have hsum : (x : Int) + (A : Int) = (U : Int) := by omega
            have hwr1 : IntKind.i64.wrap (U : Int) = (U : Int) := wrap_small _ (by omega) (by omega)
            have hqi : (q : Int) < (N : Int) := by omega
            obtain ⟨QL, hQL⟩ : ∃ QL, PK ++ M.take j = QL := ⟨_, rfl⟩
            rw [hQL] at HQ4 HMS hql
            clear hQL hU
            obtain ⟨ql, hqn⟩ : ∃ ql, QL.length = ql := ⟨_, rfl⟩
            have HQN := boxed hqn
            rw [hqn] at HQ4 hql
            have HVS := boxed (vals_snoc QL U)
            obtain ⟨vo, vc, hvv⟩ := own_shape HQ4.out
            have hsz1 := HB4.out.size
            have hbd : Below wr.heap.size wr ((wr.alloc (.cells #[.int .i64 (U : Int)] 3)).drew) := ((Below.refl _ _).alloc (Nat.le_refl _) _).drew
            have HOa := boxed (owns_below HQ4.out hbd)
            have HNw : Box (∀ j u, ([.int .i64 (U : Int)] : List Value)[j]? = some u → ((wr.alloc (.cells #[.int .i64 (U : Int)] 3)).drew).cell? ((⟨wr.heap.size, 0, none⟩ : Addr).add j) = some u) := boxed (by
              intro j u hj
              rw [World.cell?_drew]
              exact one_new wr _ _ j u hj)
            have H1c : Box (∀ u ∈ ([.int .i64 (U : Int)] : List Value), u.oneCell' = true) := boxed (one_cell _ _)
            have hb0 : w1.heap.size ≤ ((wr.alloc (.cells #[.int .i64 (U : Int)] 3)).drew).heap.size := by simp; omega
            have HPa := boxed (owns_below HP4.out hbd)
            have HDa := boxed (HD4.out.below hbd)
            have HBa := boxed (below_step HB4.out (Nat.le_refl _) hbd)
            have HSa : Box (((wr.alloc (.cells #[.int .i64 (U : Int)] 3)).drew).heap.size = wr.heap.size + 1) := boxed (by simp)
            have hlk := hlt
            clear hqn hbd HWr hnt
            have hab := HAP4
            go_wp2_with fail
            subst hvv
            go_region_law (refine step_append_apart rfl _ _ 36 rfl w1.heap.size 3 i2 (.int .i64 0) 1 8 Try.underlying36 hi2 hz0 hz1 hz2 rfl (by decide) _ _ _ rfl HOa.out ⟨wr.heap.size, 0, none⟩ 1 1 [.int .i64 (U : Int)] rfl rfl HNw.out H1c.out (by unfold maxLen; omega) (by omega) hb0 (by omega) ?_; intro v6 w6 hown6 hgrow6 hwh6; have HB6 : Box (Below w1.heap.size w1 w6) := boxed (HBa.out.grown hgrow6 HBa.out.size (fun k hk => (HOa.out.lt k hk).1)); have HP6 := boxed (HPa.out.kept hgrow6 HAP4.out); have HD6 := boxed (HDa.out.grown hgrow6 HA4.out); have HO6 := boxed hown6; have HWH := boxed hwh6; have HSZ6 := boxed hgrow6.size; clear hown6 hgrow6 hwh6)
            all_goals
              rw [HVS.out] at HO6
              have HQ6 : Box (w6.ownsRow w1.heap.size 3 1 v6 (PK ++ M.take (j + 1)).length (vals (PK ++ M.take (j + 1)))) := boxed (by rw [HMS.out, List.length_append, HQN.out]; exact HO6.out)
              have HAP6 : Box ((Value.slice (some ⟨gp, 0, none⟩) m pc).ownBlock = none ∨ (Value.slice (some ⟨gp, 0, none⟩) m pc).ownBlock ≠ v6.ownBlock) := boxed (by
                rcases HWH.out with c | c
                · rw [c]; exact HAP4.out
                · right
                  rw [c]
                  intro e
                  have h5 := (HPa.out.lt _ e).2
                  omega)
              have HA6 : Box (∀ b o, some (⟨b2, off2, none⟩ : Addr) = some ⟨b, o, none⟩ → v6.ownBlock ≠ some b) := boxed (by
                intro b o e
                rcases HWH.out with c | c
                · rw [c]; exact HA4.out b o e
                · rw [c]
                  injection e with e
                  injection e with e
                  intro h
                  injection h with h
                  have := HSa.out
                  omega)
              have hsz6 : w3.heap.size ≤ w6.heap.size := by have := HSZ6.out; have := HSa.out; omega
              clear hwr1 HO6 HWH HSZ6 HOa HNw H1c HPa HDa HBa HSa HQ4 HP4 HD4 HB4 HAP4 HA4 hcl hat c1
              go_wp2_with fail
              go_roundw
              case rel => exact ⟨j + 1, by omega, by go_num, HQ6, HP6, HAP6, HD6, HA6, HB6, hsz6⟩
              case measure => simp [intOf]; omega
          · have e : j = m := by omega
            subst e
            have HQE : Box (wr.ownsRow w1.heap.size 3 1 u11 (plc f s (P.take (k + 1))).length (vals (plc f s (P.take (k + 1))))) := boxed (by
              rw [HPE.out]
              have := HQ4.out
              rw [List.take_of_length_le (by rw [HML.out]; exact Nat.le_refl _)] at this
              exact this)
            clear HQ4 HP4 HAP4 HD4 HA4
            go_wp2_with fail
            go_roundw
            case rel => exact ⟨k + 1, by omega, by go_num, HPC2, HQE, HB4⟩
            case measure => simp [intOf]; omega
      · have e : k = n := by omega
        have HE : Box (P.take k = Wds s) := boxed (by rw [HPP.out, List.take_of_length_le (by rw [HN.out]; omega)])
        have HPO : Box (PlcP QQ YY l r s (plc f s (P.take k))) := boxed (.inr ⟨HRT.out, f, by rw [← HE.out]; exact HPC.out, by rw [HE.out]⟩)
        have HQ2 := boxed (own_down HQ.out HB1.out.size)
        subst e
        clear HQ
        go_wp2_with fail
        go_ret
        exact ⟨_, _, rfl, HQ2.out, HPO.out, below_step HB1.out (Nat.le_refl _) HB2.out⟩
end Go.Proofs.Ytflhefgmgdgffaa
