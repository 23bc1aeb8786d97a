/-
  For every list of styles and every pages the law LocateBack answers true: a line's first byte stands at its left, each of its bytes is on it, and what is hit at a seen rune's own place is that rune's byte.
  No condition besides the statement's own (styles that aren't right, pages that aren't few, pages with lines that aren't tried, and lines whose glue is set, are let go by the law itself).
-/
import Derived.Test.YtcdcpmcjlchfgaaRows
import Derived.WalkKit
import Derived.ProofKit
import Derived.OpenShut
import Derived.SizedLaws
import Derived.ShutString
import Derived.ChangeOld
import Derived.Below
import Derived.Test.YtcdcpmcjlchfgaaLpx
import Derived.Test.YtcdcpmcjlchfgaaLpr
import Derived.Deep.Cut
import Derived.Deep.RegionHeld3
import Derived.Lib.QuietBelow
import Derived.BigQuiet
import Derived.Deep.DeepCutAuto
namespace Go.Proofs.Ytcdcpmcjlchfgaa.locateBack
open Go.ChangeShapes Go.WideShapes Go.ChangeAt Go.RowKit
open Go.ChangeMaps (open_string shut_string)
set_option linter.unusedVariables false
set_option linter.unusedSimpArgs false

theorem own : ownKnob Try.prog.godebug = none := by kernel_rfl
theorem laidOut : laidOutB Try.prog = true := by kernel_rfl

set_option maxRecDepth 100000 in
set_option maxHeartbeats 16000000 in
theorem walk (w : World) (ao0 : Option Addr) (n0 cap0 : Nat) (F0 : Nat → Sty) (hn0 : n0 ≤ cap0 ∧ cap0 * 80 ≤ 140737488351232) (hF0 : StysAt (fun _ => True) w ao0 n0 F0) (ao1 : Option Addr) (n1 cap1 : Nat) (P1 : Nat → Pgv) (hn1 : n1 ≤ maxLen ∧ Sl ao1 cap1 n1) (hP1 : PgsR (fun _ => True) w ao1 n1 P1) :
    Calls Try.prog 7 #[.slice ao0 n0 cap0, .slice ao1 n1 cap1] w fun e w' => e = .returned (.bool true) ∧ Below w.heap.size w w' := by
  have htb := boxed (fun W (hb : Below w.heap.size w W) => table_any (fun _ => True) ao0 n0 cap0 F0 W (hF0.below hb))
  have HF0 := boxed hF0
  have HP1 := boxed hP1
  have HN1 := boxed hn1
  have HFw := boxed (fun W (hb : Below w.heap.size w W) => few_any (fun _ => True) ao1 n1 cap1 P1 W (hP1.below hb) hn1.1)
  have HAw := boxed (fun W => awake_any W)
  clear hF0 hP1 hn1
  go_enter Try.func7, Try.ntmps7
  go_wp2_with fail
  refine (HAw.out _).mono ?_
  rintro e w1 ⟨rfl, hb1⟩
  have HB1 := boxed hb1
  clear hb1 HAw
  go_wp2_with fail
  refine (htb.out _ HB1.out).mono ?_
  rintro e w2 ⟨hor, hb2⟩
  have HB2 := boxed (below_step HB1.out (Nat.le_refl _) hb2)
  clear hb2 htb
  have hun : undef = Value.tuple #[] := rfl
  rcases hor with ⟨hne, rfl⟩ | ⟨hz, tb, G, rfl, hT, hL⟩
  · go_wp2_with fail
    go_ret
    exact ⟨rfl, HB2.out⟩
  have hg : ∀ i, i < n0 → flt (G i) = 0 := fun i hi => by rw [flt_like (hL i hi)]; exact (ckc_good F0 n0 hz).2.2 i hi
  have hgF : ∀ i, i < n0 → flt (F0 i) = 0 := (ckc_good F0 n0 hz).2.2
  have HT2 := boxed (hT.mono HB1.out.size)
  have HG := boxed hg
  have HGF := boxed hgF
  have HLk : Box (∀ a, Like (ofS F0 n0 a) (ofS G n0 a)) := boxed (ofS_like hL)
  clear hT hL hz hg hgF
  go_wp2_with fail
  refine (HFw.out _ HB2.out).mono ?_
  rintro e w3 ⟨⟨b, rfl, hb⟩, hb3⟩
  have HB3 := boxed (below_step HB2.out (Nat.le_refl _) hb3)
  have HT := boxed (HT2.out.below hb3)
  have HBb := boxed hb
  clear hb hb3 HFw HT2
  cases b with
  | false =>
    go_wp2_with fail
    go_ret
    exact ⟨rfl, HB3.out⟩
  | true =>
    have HFP := boxed (HBb.out (by first | rfl | trivial))
    have hsm := HFP.out.small
    clear HBb
    clear hun
    go_wp2_with fail
    go_loopw [6] (fun pv wr => ∃ p : Nat, p ≤ n1 ∧ pv = .int .i64 (p : Nat) ∧ Box (Below w3.heap.size w3 wr)) (fun pv _ => n1 - (intOf pv).toNat)
    case atStart => exact ⟨0, Nat.zero_le _, rfl, boxed (Below.refl _ _)⟩
    case round =>
      obtain ⟨p, hp, rfl, HB⟩ := hrel
      have hn20 := HFP.out.cnt
      by_cases hpn : p < n1
      · have t0 : decide ((p : Int) < (n1 : Int)) = true := decide_eq_true (by omega)
        have hpi : (p : Int) < (n1 : Int) := by omega
        have HPp : Box (∀ W, Below w3.heap.size w3 W → PgsR (fun _ => True) W ao1 n1 P1) := boxed (fun W hb => HP1.out.below (below_step HB3.out (Nat.le_refl _) hb))
        have hln := HFP.out.lns p hpn
        obtain ⟨-, -, bp, op, hao, -, -⟩ := (HPp.out wr HB.out) p hpn
        subst hao
        have HPc : Box (∀ W, Below w3.heap.size w3 W → W.cell? ⟨bp, op + p, none⟩ = some (.slice (P1 p).la (P1 p).ln (P1 p).lc) ∧ LnsAt (fun _ => True) W (P1 p).la (P1 p).ln (P1 p).F) := boxed (fun W hb => by
          obtain ⟨-, h2, b, off, e, -, c⟩ := (HPp.out W hb) p hpn
          injection e with e
          injection e with e1 e2
          subst e1; subst e2
          exact ⟨c, h2⟩)
        have HOK := boxed (HPp.out wr HB.out p hpn).1
        obtain ⟨wo, rfl⟩ : ∃ wo, wo = wr := ⟨_, rfl⟩
        obtain ⟨c0, -⟩ := HPc.out _ HB.out
        go_wp2_with fail
        clear c0
        go_loopw [7] (fun kv wr => ∃ k : Nat, k ≤ (P1 p).ln ∧ kv = .int .i64 (k : Nat) ∧ Box (Below w3.heap.size w3 wr)) (fun kv _ => (P1 p).ln - (intOf kv).toNat)
        case atStart => exact ⟨0, Nat.zero_le _, rfl, HB⟩
        case round =>
          obtain ⟨k, hk, rfl, HB⟩ := hrel
          obtain ⟨c0, hls⟩ := HPc.out _ HB.out
          by_cases hkl : k < (P1 p).ln
          · have tk : decide ((k : Int) < ((P1 p).ln : Int)) = true := decide_eq_true (by omega)
            have hki : (k : Int) < ((P1 p).ln : Int) := by omega
            obtain ⟨bl, ol, hla, -⟩ := hls.form (by omega)
            rw [hla] at hls c0
            obtain ⟨hp2, e0, e1, e2, e3, e4, e5, e6, e7, e8⟩ := hls.get k hkl
            obtain ⟨N, hLP⟩ := HFP.out.ok p k hpn hkl
            have HLP := boxed hLP
            have hxn := (HOK.out.all k hkl).rn
            obtain ⟨wb, hwb, hbB, hbz, hbL⟩ := lnat_new wr ((P1 p).F k)
            have HBb := boxed (below_step HB.out (Nat.le_refl _) hbB)
            have HBL := boxed hbL
            have HWB := boxed hwb
            have HLi := boxed (fun W (hb : Below w3.heap.size w3 W) (a : Int) (ha : I64 a) => line_any (fun _ => True) (some ⟨bp, op, none⟩) n1 cap1 P1 a W (HPp.out W hb) HN1.out.1 ha)
            have hof := offset_any (fun _ => True) (some ⟨bp, op, none⟩) n1 cap1 P1 (p : Int) (k : Int) wb (HPp.out wb HBb.out) HN1.out hsm
            rw [ofs_in n1 P1 p k hpn hkl] at hof
            have HSp := boxed (fun W (hb : Below w3.heap.size w3 W) (a : Int) (ha : I64 a) => spot_any (HT.out.below hb) HG.out (some ⟨bp, op, none⟩) n1 cap1 P1 a (HPp.out W hb) HN1.out.1 ha HFP.out)
            have HHt := boxed (fun W (hb : Below w3.heap.size w3 W) (z : Int) (hz : I64 z) => hit_any (HT.out.below hb) HG.out (some ⟨bp, op, none⟩) n1 cap1 P1 (HPp.out W hb) HN1.out HFP.out (p : Int) (k : Int) z (by unfold I64 at *; omega))
            have HSt := boxed (fun W (hb : Below w3.heap.size w3 W) => stops_any (HT.out.below hb) HG.out (fun _ => True) ((P1 p).F k) (((HPc.out W hb).2 k hkl).1) hxn N hLP.ok (by have := hLP.tx; omega))
            have hNs : N ≤ 200 := by have := cnt_le ((P1 p).F k).tx N hLP.ok.1; have := it_le ((P1 p).F k).tx N; have := hLP.tx; omega
            have hsz := hLP.tx
            have hm1 := psz_mono P1 (p + 1) n1 hpn
            have hm3 := lsz_mono (P1 p).F (k + 1) (P1 p).ln (by omega)
            have hm4 : psz P1 (p + 1) = psz P1 p + lsz (P1 p).F (P1 p).ln := rfl
            have hm5 : lsz (P1 p).F (k + 1) = lsz (P1 p).F k + ((P1 p).F k).tx.size := rfl
            have hL1 := boxed (fun i (hi : i < ((P1 p).F k).tx.size) r (hr : LnR n1 P1 ((psz P1 p + lsz (P1 p).F k + i : Nat) : Int) r) => line_in hpn hkl hi hr)
            have hS1 := boxed (fun j (hj : j < N) v (hv : SpP (ofS G n0) n1 P1 ((psz P1 p + lsz (P1 p).F k + it ((P1 p).F k).tx j : Nat) : Int) v) => spot_in hpn hkl hLP hj hv)
            have hH1 := boxed (fun z v (hv : HtP (ofS G n0) n1 P1 (p : Int) (k : Int) z v) => hit_in hpn hkl hLP hv)
            have HXm : Box (((P1 p).F k).num = 0 → ∀ a b, a ≤ b → xs (ofS G n0) ((P1 p).F k).L ((P1 p).F k).Y ((P1 p).F k).rn ((P1 p).F k).num ((P1 p).F k).den ((P1 p).F k).tx N a ≤ xs (ofS G n0) ((P1 p).F k).L ((P1 p).F k).Y ((P1 p).F k).rn ((P1 p).F k).num ((P1 p).F k).den ((P1 p).F k).tx N b) := boxed (fun h a b hab => by rw [h]; exact xs_mono (fun s => ofS_bnd HG.out s) _ _ _ _ _ _ _ _ hab)
            have HX0 : Box (xs (ofS G n0) ((P1 p).F k).L ((P1 p).F k).Y ((P1 p).F k).rn ((P1 p).F k).num ((P1 p).F k).den ((P1 p).F k).tx N 0 = 0) := boxed rfl
            have HXb := boxed (fun q => xs_le (ofS G n0) ((P1 p).F k).L ((P1 p).F k).Y ((P1 p).F k).rn ((P1 p).F k).num ((P1 p).F k).den ((P1 p).F k).tx N q)
            have HIL := boxed (fun q => it_le ((P1 p).F k).tx q)
            obtain ⟨O, hO⟩ : ∃ O, psz P1 p + lsz (P1 p).F k = O := ⟨_, rfl⟩
            have hOb : O + ((P1 p).F k).tx.size ≤ 1000000 := by omega
            rw [hO] at hof hL1 hS1 hH1
            clear hls hp2 hwb hbB hbL hm1 hm3 hm4 hm5 hO hLP hxn
            generalize hXX : (fun q => xs (ofS G n0) ((P1 p).F k).L ((P1 p).F k).Y ((P1 p).F k).rn ((P1 p).F k).num ((P1 p).F k).den ((P1 p).F k).tx N q) = X at *
            have HXm2 : Box (((P1 p).F k).num = 0 → ∀ a b, a ≤ b → X a ≤ X b) := boxed (by rw [← hXX]; exact HXm.out)
            have HX02 : Box (X 0 = 0) := boxed (by rw [← hXX]; exact HX0.out)
            have HXb2 : Box (∀ q, -1152921504606846976 ≤ X q ∧ X q ≤ 1152921504606846976) := boxed (by rw [← hXX]; exact HXb.out)
            have hS2 : Box (∀ j, j < N → ∀ v, SpP (ofS G n0) n1 P1 ((O + it ((P1 p).F k).tx j : Nat) : Int) v → v = spV p k (X j) 0) := boxed (by rw [← hXX]; exact hS1.out)
            clear hXX HXm HX0 HXb hS1
            obtain ⟨M, hM⟩ : ∃ M, N + 1 = M := ⟨_, rfl⟩
            have HM := boxed hM
            rw [hM] at HSt
            clear hM
            go_upto_region 13 with (fail)
            rw [HWB.out]
            go_wp2_with fail
            refine hof.mono ?_
            rintro e w4 ⟨rfl, hb4⟩
            have HB4 := boxed (below_step HBb.out (Nat.le_refl _) hb4)
            have HBL4 := boxed (fun W (hb : Below w4.heap.size w4 W) => HBL.out W (below_step hb4 (Nat.le_refl _) hb))
            obtain ⟨d0, d1, d2, d3, d4, d5, d6, d7, d8⟩ := (HBL4.out w4 (Below.refl _ _)).cells
            clear hb4 hof HBL e0 e1 e2 e3 e4 e5 e6 e7 e8 c0
            by_cases hnum : ((P1 p).F k).num = 0
            · rw [hnum] at d2
              have hxm := HXm2.out hnum
              have HXM := boxed hxm
              clear hxm HXm2 hnum
              go_wp2_with fail
              clear d0 d1 d2 d3 d4 d5 d6 d7 d8
              go_loopw [11] (fun iv wr => ∃ i : Nat, i ≤ ((P1 p).F k).tx.size ∧ iv = .int .i64 (i : Nat) ∧ Box (Below w4.heap.size w4 wr)) (fun iv _ => ((P1 p).F k).tx.size - (intOf iv).toNat)
              case atStart => exact ⟨0, Nat.zero_le _, rfl, boxed (Below.refl _ _)⟩
              case round =>
                obtain ⟨i, hi, rfl, HBi⟩ := hrel
                have HB3i := boxed (below_step HB4.out (Nat.le_refl _) HBi.out)
                obtain ⟨d0, d1, d2, d3, d4, d5, d6, d7, d8⟩ := (HBL4.out _ HBi.out).cells
                by_cases hil : i < ((P1 p).F k).tx.size
                · have ti : decide ((i : Int) < (((P1 p).F k).tx.size : Int)) = true := decide_eq_true (by omega)
                  have hlc := HLi.out _ HB3i.out ((O : Int) + (i : Int)) (by unfold I64; omega)
                  have hL2 := boxed (fun r (hr : LnR n1 P1 ((O : Int) + (i : Int)) r) => hL1.out i hil r (by rw [Int.natCast_add]; exact hr))
                  clear d1 d2 d3 d4 d5 d6 d7 d8
                  go_wp2_with fail
                  refine hlc.mono ?_
                  rintro e w5 ⟨⟨r, rfl, hr⟩, hb5⟩
                  have er := hL2.out r hr
                  subst er
                  have HB5 := boxed (below_step HBi.out (Nat.le_refl _) hb5)
                  clear hr hb5 hlc hL2 d0
                  unfold lnT
                  go_wp2_with fail
                  go_roundw
                  case rel => exact ⟨i + 1, by omega, by go_num, HB5⟩
                  case measure => simp [intOf] <;> omega
                · have ti : decide ((i : Int) < (((P1 p).F k).tx.size : Int)) = false := decide_eq_false (by omega)
                  have tin : decide (i < ((P1 p).F k).tx.size) = false := decide_eq_false (by omega)
                  have hst := HSt.out _ HB3i.out
                  unfold Lne.val at hst
                  go_wp2_with fail
                  refine hst.mono ?_
                  rintro e w6 ⟨⟨mb, rfl, hq6⟩, hb6⟩
                  have HP6 := boxed hq6
                  have HB6 := boxed (below_step HB3i.out (Nat.le_refl _) hb6)
                  clear hq6 hb6 hst d0 d1 d2 d3 d4 d5 d6 d7 d8 ti tin HBL4 HLi hL1 HSt
                  go_wp2_with fail
                  go_loopw [17] (fun iv wr => ∃ j : Nat, j ≤ N ∧ iv = .int .i64 (j : Nat) ∧ Box (Below w6.heap.size w6 wr)) (fun iv _ => M - (intOf iv).toNat)
                  case atStart => exact ⟨0, Nat.zero_le _, rfl, boxed (Below.refl _ _)⟩
                  case round =>
                    obtain ⟨j, hj, rfl, HBj⟩ := hrel
                    have hMM := HM.out
                    have HB3j := boxed (below_step HB6.out (Nat.le_refl _) HBj.out)
                    by_cases hjn : j < N
                    · have tj : decide ((j : Int) + 1 < (M : Int)) = true := decide_eq_true (by omega)
                      have hjM : j < M := by omega
                      have hjM2 : (j : Int) < (M : Int) := by omega
                      have hj1M : j + 1 < M := by omega
                      have hj1M2 : (j : Int) + 1 < (M : Int) := by omega
                      obtain ⟨q0, q1⟩ := (HP6.out.below HBj.out).get j hjM
                      simp only [Nat.zero_add] at q0 q1
                      have hit := HIL.out j
                      have hsp := HSp.out _ HB3j.out ((O : Int) + (it ((P1 p).F k).tx j : Int)) (by unfold I64; omega)
                      have hS3 := boxed (fun v (hv : SpP (ofS G n0) n1 P1 ((O : Int) + (it ((P1 p).F k).tx j : Int)) v) => hS2.out j hjn v (by rw [Int.natCast_add]; exact hv))
                      clear hMM
                      go_wp2_with fail
                      refine hsp.mono ?_
                      rintro e w7 ⟨⟨v, rfl, hv⟩, hb7⟩
                      have ev := hS3.out v hv
                      subst ev
                      obtain ⟨w8, hw8, hb8, hc8⟩ := spot3_new w7 (p : Int) (k : Int) (X j)
                      have HB68 := boxed (below_step (below_step HBj.out (Nat.le_refl _) hb7) (Nat.le_refl _) hb8)
                      have HC8 := boxed hc8
                      have HW8 := boxed hw8
                      clear hv hb7 hsp hS3 q0 q1 hw8 hb8 hc8
                      unfold spV
                      go_upto_region 27 with (fail)
                      rw [HW8.out]
                      go_cut [161] (fun s161 wx => s161 = .bool false ∧ Box (Below w8.heap.size w8 wx))
                      case first =>
                        obtain ⟨s0, s1, s2⟩ := HC8.out w8 (Below.refl _ _)
                        obtain ⟨q0, q1⟩ := (HP6.out.below HB68.out).get j hjM
                        simp only [Nat.zero_add] at q0 q1
                        by_cases hj0 : j = 0
                        · have tz : ((j : Int) == 0) = true := by rw [beq_iff_eq]; omega
                          have hx0 : X j = 0 := by rw [hj0]; exact HX02.out
                          rw [hx0] at s2 q1
                          clear hx0 hj0
                          go_quiet (fail)
                          have HQQ := boxed (bel_drewN w8.heap.size w8 nq)
                          go_wp2_with fail
                          go_meet
                          case rel => exact ⟨rfl, HQQ⟩
                        · have tz : ((j : Int) == 0) = false := by rw [beq_eq_false_iff_ne]; omega
                          clear hj0
                          generalize X j = Xj at *
                          go_quiet (fail)
                          have HQQ := boxed (bel_drewN w8.heap.size w8 nq)
                          go_wp2_with fail
                          go_meet
                          case rel => exact ⟨rfl, HQQ⟩
                      case rest =>
                        obtain ⟨rfl, HBc⟩ := hcut
                        have HB6c := boxed (below_step HB68.out (Nat.le_refl _) HBc.out)
                        have HB3c := boxed (below_step HB6.out (Nat.le_refl _) HB6c.out)
                        obtain ⟨s0, s1, s2⟩ := HC8.out _ HBc.out
                        have hxb := HXb2.out j
                        have hht := HHt.out _ HB3c.out (X j) (by unfold I64; omega)
                        clear HC8 HW8 HB68 HBc
                        go_wp2_with fail
                        refine hht.mono ?_
                        rintro e w9 ⟨⟨v, rfl, hv⟩, hb9⟩
                        obtain ⟨u, rfl, hu⟩ := hH1.out _ v hv
                        have HU := boxed hu
                        have HB69 := boxed (below_step HB6c.out (Nat.le_refl _) hb9)
                        clear hv hu hb9 hht s0 s1 s2
                        obtain ⟨q0, q1⟩ := (HP6.out.below HB69.out).get j hjM
                        obtain ⟨r0, r1⟩ := (HP6.out.below HB69.out).get (j + 1) hj1M
                        simp only [Nat.zero_add] at q0 q1 r0 r1
                        unfold htV
                        simp only [Int.natCast_add]
                        by_cases hxx : X j < X (j + 1)
                        · have tx : decide (X j < X (j + 1)) = true := decide_eq_true hxx
                          have eu := hit_back HXM.out hjn HU.out hxx
                          rw [eu]
                          clear hxx eu HU
                          generalize X (j + 1) = Xk at *
                          generalize X j = Xj at *
                          go_wp2_with fail
                          go_quiet (fail)
                          have HFn := boxed (HB69.out.trans (bel_drewN _ w9 nq))
                          go_wp2_with fail
                          go_roundw
                          case rel => exact ⟨j + 1, by omega, by go_num, HFn⟩
                          case measure => simp [intOf] <;> omega
                        · have tx : decide (X j < X (j + 1)) = false := decide_eq_false hxx
                          clear hxx HU
                          generalize X (j + 1) = Xk at *
                          generalize X j = Xj at *
                          go_wp2_with fail
                          go_quiet (fail)
                          have HFn := boxed (HB69.out.trans (bel_drewN _ w9 nq))
                          go_wp2_with fail
                          go_roundw
                          case rel => exact ⟨j + 1, by omega, by go_num, HFn⟩
                          case measure => simp [intOf] <;> omega
                    · have hjN : j = N := by omega
                      have tj : decide ((j : Int) + 1 < (M : Int)) = false := decide_eq_false (by omega)
                      have tjn : decide (j + 1 < M) = false := decide_eq_false (by omega)
                      clear hMM hjn hjN
                      go_wp2_with fail
                      go_roundw
                      case rel => exact ⟨k + 1, by omega, by go_num, HB3j⟩
                      case measure => simp [intOf] <;> omega
            · have tnum : (((P1 p).F k).num != 0) = true := by simpa using hnum
              have HFn := boxed (below_step HB3.out (Nat.le_refl _) HB4.out)
              clear d0 d1 d3 d4 d5 d6 d7 d8 hnum
              go_wp2_with fail
              go_ret
              exact ⟨rfl, HFn.out⟩
          · have hke : k = (P1 p).ln := by omega
            have tk : decide ((k : Int) < ((P1 p).ln : Int)) = false := decide_eq_false (by omega)
            have tkn : decide (k < (P1 p).ln) = false := decide_eq_false (by omega)
            clear hls
            go_wp2_with fail
            go_roundw
            case rel => exact ⟨p + 1, by omega, by go_num, HB⟩
            case measure => simp [intOf] <;> omega
      · obtain rfl : p = n1 := by omega
        have t0 : decide ((p : Int) < (p : Int)) = false := decide_eq_false (by omega)
        have HFn := boxed (below_step HB3.out (Nat.le_refl _) HB.out)
        go_wp2_with fail
        go_ret
        exact ⟨rfl, HFn.out⟩

set_option maxRecDepth 100000 in
theorem lifted (os : Os) (started : os.Started) (H : Type) (enc : TypeId × Value → H) :
    ReturnsInHanded {} Try.checked os 7 .any (Rows.locateBackSpec.pre6 enc Try.prog Try.f7 Rows.locateBackRow.domain false) (Rows.locateBackSpec.post enc Try.prog Try.f7 false true false false) := by
  refine returnsInHanded_of_change_sized (C := Try.checked) own started (by kernel_rfl) Try.func7
    (ChangeSpec.witness6 (enc := enc) (C := Try.checked) false ⟨#[], #[.slice none 0 0, .slice none 0 0], []⟩ 8 (by kernel_rfl) (by kernel_rfl) (by kernel_rfl) (by kernel_rfl)) ?_
  intro W base args ds gs before hval0 hW hcnd hsz0 _
  have hval : ∀ (j : Nat) t v, Try.f7.params[j]? = some t → args[j]? = some v → Value.okWide Try.prog W .any base t v := hval0
  have hsz : (DataW.weightsEach Try.prog (Try.f7.params.toList ++ Rows.locateBackSpec.plain.varTypes Try.prog) (ds ++ gs)).all (· ≤ reachBytes) = true := hsz0
  have hW' := hW
  obtain ⟨p, q, hA0, hV, rfl, hfz, hnd⟩ := hW
  have hA : DataW.TrodAll enc Try.prog W 0 (fun _ => true) true Try.f7.params.toList args.toList ds p := hA0
  rw [Try.params7] at hA hval hsz
  obtain ⟨v0, vs0, d0, ds0, p0, q0, hargs, rfl, rfl, h0, r0⟩ := trodAll_cons hA
  obtain ⟨v1, vs1, d1, ds1, p1, q1, rfl, rfl, rfl, h1, r1⟩ := trodAll_cons r0
  obtain ⟨rfl, rfl, rfl⟩ := trodAll_nil r1
  obtain rfl : args = #[v0, v1] := by cases args; simp_all
  obtain ⟨rfl, rfl⟩ := trodVars_none hV
  obtain ⟨ao0, n0, cap0, rfl⟩ := okWide_slice Try.underlying38 (hval 0 38 v0 rfl rfl)
  have k0 := h0
  have lt0 : ∀ x ∈ p0, x.block < W.heap.size := by obtain ⟨m, hm⟩ := k0; exact DataW.trod_lt m _ _ _ hm
  obtain ⟨hn0, -, F0, hF0⟩ : (n0 ≤ cap0 ∧ cap0 * 80 ≤ 140737488351232) ∧ (ao0 = none → n0 = 0 ∧ cap0 = 0) ∧ ∃ F, StysAt (fun _ => True) W ao0 n0 F := by
    obtain ⟨fuel, hf⟩ := k0
    exact open_styles hf (fun n hn => by simpa using List.all_eq_true.1 hsz _ (DataW.weights_mem_each (j := 0) rfl rfl n hn))
  obtain ⟨ao1, n1, cap1, rfl⟩ := okWide_slice Try.underlying22 (hval 1 22 v1 rfl rfl)
  have k1 := h1
  have lt1 : ∀ x ∈ p1, x.block < W.heap.size := by obtain ⟨m, hm⟩ := k1; exact DataW.trod_lt m _ _ _ hm
  obtain ⟨hn1, P1, hP1⟩ : (n1 ≤ maxLen ∧ Sl ao1 cap1 n1) ∧ ∃ P, PgsR (fun _ => True) W ao1 n1 P := by
    obtain ⟨fuel, hf⟩ := k1
    exact open_pages hf (fun n hn => by simpa using List.all_eq_true.1 hsz _ (DataW.weights_mem_each (j := 1) rfl rfl n hn))
  clear hA0 hval0
  refine (walk W ao0 n0 cap0 F0 hn0 hF0 ao1 n1 cap1 P1 hn1 hP1).mono fun e W' ⟨he, hg⟩ => ?_
  subst he
  exact ⟨_, rfl, _, _, _, [], _, [], hW', trodAll_mk1 (shut_bool Try.underlying4 _), (trodAll_cons_mk (Below.trod laidOut (by kernel_rfl) (of_decide_eq_true (by kernel_rfl)) k0 hg lt0) (trodAll_cons_mk (Below.trod laidOut (by kernel_rfl) (of_decide_eq_true (by kernel_rfl)) k1 hg lt1) trodAll_mk0)), rfl, hg.frame _, fun h => by cases h⟩

theorem proved : Rows.LocateBackSaid :=
  OpenClaim.holds_of_wide 7 Try.f7 rfl rfl rfl rfl rfl rfl rfl ⟨rfl, rfl, rfl, rfl, rfl⟩ rfl rfl rfl rfl rfl (by kernel_rfl) Try.func7 (by kernel_rfl)
    (of_decide_eq_true (by kernel_rfl)) (by unfold Func.isWrapper; first | (rw [if_pos (by decide +kernel)]; kernel_rfl) | (rw [if_neg (by decide +kernel)]; exact ⟨rfl, rfl⟩))
    (fun os started H enc _ => lifted os started H enc)
#print axioms proved
end Go.Proofs.Ytcdcpmcjlchfgaa.locateBack
