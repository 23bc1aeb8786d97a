/-
  What the document's Hit answers.
-/
import Derived.Test.YtcdcpmcjlchfgaaLpv
import Derived.Test.YtcdcpmcjlchfgaaLpq
import Derived.Test.YtcdcpmcjlchfgaaLpl
namespace Go.Proofs.Ytcdcpmcjlchfgaa
open Go.RowKit
set_option linter.unusedSimpArgs false
set_option linter.unusedVariables false

set_option maxRecDepth 100000 in
set_option maxHeartbeats 16000000 in
theorem refhit_any (SF : Nat → Prop) (fo : Option Addr) (m fc : Nat) (G : Nat → Sty) (w : World) (h : StysAt SF w fo m G) (hg : ∀ i, i < m → flt (G i) = 0) (ao : Option Addr) (n cap : Nat) (P : Nat → Pgv) (hP : PgsR (fun _ => True) w ao n P) (hn : n ≤ maxLen ∧ Sl ao cap n) (hF : FewP n P) (sx sy sz : Int) (hs : I64 sx ∧ I64 sy ∧ I64 sz) :
    Calls Try.prog 25 #[.slice fo m fc, .slice ao n cap, .agg #[.int .i64 sx, .int .i64 sy, .int .i64 sz]] w fun e w' => (∃ v, e = .returned (htW v) ∧ HtP (ofS G m) n P sx sy sz v) ∧ Below w.heap.size w w' := by
  obtain ⟨w0, hw0, hB0, hC⟩ := spot3_new w sx sy sz
  have HW0 := boxed hw0
  have HB0 := boxed hB0
  have HC := boxed hC
  have HPg := boxed hP
  have HSt := boxed h
  have HG := boxed hg
  have HF := boxed hF
  have HN := boxed hn
  obtain ⟨hs1, hs2, hs3⟩ := hs
  unfold I64 at hs1 hs2
  clear h hg hP hn hF hw0 hB0 hC
  obtain ⟨c0, c1, c2⟩ := HC.out w0 (Below.refl _ _)
  by_cases h0 : n = 0
  · subst h0
    have HFin : Box (HtP (ofS G m) 0 P sx sy sz none) := boxed (Or.inl rfl)
    go_enter Try.func25, Try.ntmps25
    go_upto_region 1 with (fail)
    rw [HW0.out]
    go_wp2_with fail
    go_ret2
    exact ⟨⟨none, rfl, HFin.out⟩, HB0.out⟩
  have t0 : ((n : Int) == 0) = false := by rw [beq_eq_false_iff_ne]; omega
  have hnm := HN.out.1
  obtain ⟨hlt, hmin⟩ := nst_lt sx n (by omega)
  have hsm := HF.out.small
  obtain ⟨p, hp⟩ : ∃ p, nst sx n = p := ⟨_, rfl⟩
  have HPn := boxed hp
  rw [hp] at hlt hmin
  clear hp
  have hpi : (p : Int) < (n : Int) := by omega
  have hn20 := HF.out.cnt
  obtain ⟨hok, hls, b, off, hao, -, d0⟩ := (HPg.out.below HB0.out) p hlt
  subst hao
  by_cases hl0 : (P p).ln = 0
  · have HFin : Box (HtP (ofS G m) n P sx sy sz none) := boxed (Or.inr (by rw [HPn.out]; exact hl0))
    rw [hl0] at d0
    clear hl0 hok hls hs2 hs3 hnm
    generalize (P p).la = la at *
    generalize (P p).lc = lc at *
    go_enter Try.func25, Try.ntmps25
    go_upto_region 1 with (fail)
    rw [HW0.out]
    go_wp2_with fail
    go_ret2
    exact ⟨⟨none, rfl, HFin.out⟩, HB0.out⟩
  have t1 : (((P p).ln : Int) == 0) = false := by rw [beq_eq_false_iff_ne]; omega
  have hlm := HF.out.lns p hlt
  obtain ⟨hlt2, hmin2⟩ := nst_lt sy (P p).ln (by omega)
  obtain ⟨k, hk⟩ : ∃ k, nst sy (P p).ln = k := ⟨_, rfl⟩
  have HKn := boxed hk
  rw [hk] at hlt2 hmin2
  clear hk
  have hki : (k : Int) < ((P p).ln : Int) := by omega
  obtain ⟨N, hLP⟩ := HF.out.ok p k hlt hlt2
  have hof := boxed (fun q => refoffset_any (fun _ => True) (some ⟨b, off, none⟩) n cap P (p : Int) (k : Int) (w0.drewN q) (HPg.out.below (HB0.out.trans (bel_drewN _ w0 q))) HN.out.1 hsm)
  rw [ofs_in n P p k hlt hlt2] at hof
  obtain ⟨bl, ol, hla, -⟩ := hls.form (by omega)
  rw [hla] at hls d0
  obtain ⟨hp2, e0, e1, e2, e3, e4, e5, e6, e7, e8⟩ := hls.get k hlt2
  have hrst := boxed (fun W (hb : Below w0.heap.size w0 W) => refstops_any SF fo m fc G W (HSt.out.below (below_step HB0.out (Nat.le_refl _) hb)) HG.out (fun _ => True) ((P p).F k) (hp2.below hb) (hok.all k hlt2).rn N hLP.ok (by have := hLP.tx; omega))
  have hend := boxed (fun W => refend_any ((P p).F k).tx W (by have := hLP.tx; omega) N hLP.ok)
  have hNs : N ≤ 200 := by have := cnt_le ((P p).F k).tx N hLP.ok.1; have := it_le ((P p).F k).tx N; have := hLP.tx; omega
  have HIL := boxed (fun q => Nat.le_trans (it_le ((P p).F k).tx q) hLP.tx)
  have hm1 := psz_mono P (p + 1) n hlt
  have hm3 := lsz_mono (P p).F k (P p).ln (by omega)
  have hm4 : psz P (p + 1) = psz P p + lsz (P p).F (P p).ln := rfl
  obtain ⟨O, hO⟩ : ∃ O, psz P p + lsz (P p).F k = O := ⟨_, rfl⟩
  have hOb : O ≤ 1000000 := by omega
  have HFin : Box (∀ v, HitP (fun q => xs (ofS G m) ((P p).F k).L ((P p).F k).Y ((P p).F k).rn ((P p).F k).num ((P p).F k).den ((P p).F k).tx N q) ((P p).F k).tx N sz v → HtP (ofS G m) n P sx sy sz (some (O + v))) := boxed (fun v hv => by
    refine ⟨by omega, by rw [HPn.out]; omega, ?_⟩
    rw [HPn.out, HKn.out]
    exact ⟨N, v, hLP, hv, by rw [← hO]⟩)
  rw [hO] at hof
  clear hm1 hm3 hm4 hO hls hok hp2 hla hLP hl0 HF HN HG hsm h0 hnm hs3
  generalize (fun q => xs (ofS G m) ((P p).F k).L ((P p).F k).Y ((P p).F k).rn ((P p).F k).num ((P p).F k).den ((P p).F k).tx N q) = X at *
  generalize (P p).lc = lc at *
  generalize (P p).ln = ln at *
  generalize (P p).F k = y at *
  unfold Lne.val at hrst
  obtain ⟨M, hM⟩ : ∃ M, N + 1 = M := ⟨_, rfl⟩
  rw [hM] at hrst
  have hMN : M ≤ 201 := by omega
  have HM := boxed hM
  have HEC : Box (∀ W, Below w0.heap.size w0 W → (W.cell? ⟨w.heap.size, 2, none⟩ = some (.int .i64 sz) ∧ W.cell? ⟨b, off + p, none⟩ = some (.slice (some ⟨bl, ol, none⟩) ln lc)) ∧ W.cell? ⟨bl, ol + k * 9, none⟩ = some (.string y.tx)) := boxed (fun W hb => ⟨⟨hold hb c2, hold hb d0⟩, hold hb e0⟩)
  clear hM
  go_enter Try.func25, Try.ntmps25
  go_upto_region 1 with (fail)
  rw [HW0.out]
  go_wp2_with fail
  go_quiet (fail)
  have HBd := boxed (bel_drewN w0.heap.size w0 nq)
  have hof2 := hof.out nq
  obtain ⟨⟨c2, d0⟩, e0'⟩ := HEC.out _ HBd.out
  clear c0 c1 hof hmin hmin2 hs1 hs2
  go_wp2_with fail
  generalize w0.drewN nq = w1 at *
  refine hof2.mono ?_
  rintro e w1' ⟨rfl, hw1'⟩
  subst hw1'
  obtain ⟨f0, f1, f2, f3, f4, f5, f6, f7, f8⟩ : w1'.cell? ⟨bl, ol + k * 9, none⟩ = some (.string y.tx) ∧ w1'.cell? ⟨bl, ol + k * 9 + 1, none⟩ = some (.slice y.ra y.rn y.rc) ∧ w1'.cell? ⟨bl, ol + k * 9 + 2, none⟩ = some (.int .i64 y.num) ∧ w1'.cell? ⟨bl, ol + k * 9 + 3, none⟩ = some (.int .i64 y.den) ∧ w1'.cell? ⟨bl, ol + k * 9 + 4, none⟩ = some (.int .i64 y.h) ∧ w1'.cell? ⟨bl, ol + k * 9 + 5, none⟩ = some (.bool y.hy) ∧ w1'.cell? ⟨bl, ol + k * 9 + 6, none⟩ = some (.int .i64 y.y) ∧ w1'.cell? ⟨bl, ol + k * 9 + 7, none⟩ = some (.bool y.bg) ∧ w1'.cell? ⟨bl, ol + k * 9 + 8, none⟩ = some (.bool y.en) := ⟨hold HBd.out e0, hold HBd.out e1, hold HBd.out e2, hold HBd.out e3, hold HBd.out e4, hold HBd.out e5, hold HBd.out e6, hold HBd.out e7, hold HBd.out e8⟩
  clear e0 e1 e2 e3 e4 e5 e6 e7 e8 hof2
  go_wp2_with fail
  have hrs2 := hrst.out _ HBd.out
  clear hrst
  refine hrs2.mono ?_
  rintro e w2 ⟨⟨ro, rc, rfl, hp2⟩, hb2⟩
  have HP2 := boxed hp2
  have HB2 := boxed (below_step HBd.out (Nat.le_refl _) hb2)
  clear hrs2 hp2 hb2 f0 f1 f2 f3 f4 f5 f6 f7 f8 c2 d0 e0'
  go_wp2_with fail
  go_loopw [13] (fun iv wr => ∃ j I : Nat, I = j + 1 ∧ j ≤ N ∧ iv = .int .i64 (I : Nat) ∧ Box (∀ q, q < j → X (q + 1) ≤ sz) ∧ Box (Below w2.heap.size w2 wr)) (fun iv _ => M - (intOf iv).toNat)
  case atStart => exact ⟨0, 1, rfl, Nat.zero_le _, rfl, boxed (fun q hq => by omega), boxed (Below.refl _ _)⟩
  case round =>
    obtain ⟨j, I, hI, hj, rfl, HQ, HB⟩ := hrel
    have hMM := HM.out
    have HB0r := boxed (below_step HB2.out (Nat.le_refl _) HB.out)
    obtain ⟨⟨c2, d0⟩, e0⟩ := HEC.out _ HB0r.out
    have HFw := boxed (below_step HB0.out (Nat.le_refl _) HB0r.out)
    have HI := boxed hI
    have hI1 : (I : Int) - 1 = (j : Int) := by omega
    have hI2 : I ≤ 201 := by omega
    clear HB0r
    by_cases hlt : j < N
    · have hIM : I < M := by omega
      have t0 : decide ((I : Int) < (M : Int)) = true := decide_eq_true (by omega)
      have hIM2 : (I : Int) < (M : Int) := by omega
      have hjM : j < M := by omega
      have hjM2 : (j : Int) < (M : Int) := by omega
      have hpb := HP2.out.below HB.out
      obtain ⟨rb, rf, rfl, -⟩ := hpb.form (by omega)
      obtain ⟨q0, q1⟩ := hpb.get I hIM
      obtain ⟨p0, p1⟩ := hpb.get j hjM
      have hit := HIL.out j
      clear hpb hMM
      by_cases cx : sz < X I
      · have tx : decide (sz < X I) = true := decide_eq_true cx
        have HV := boxed (HFin.out (it y.tx j) (Or.inl ⟨j, hlt, by rw [← HI.out]; exact cx, HQ.out, rfl⟩))
        clear cx hI
        generalize X I = Xi at *
        generalize it y.tx j = Aj at *
        go_wp2_with fail
        go_quiet (fail)
        have HFn := boxed (HFw.out.trans (bel_drewN _ wr nq))
        go_wp2_with fail
        go_ret2
        exact ⟨⟨some (O + Aj), by (first | rfl | (unfold htW; simp; done) | (unfold htW; go_num)), HV.out⟩, HFn.out⟩
      · have tx : decide (sz < X I) = false := decide_eq_false cx
        have HQ2 : Box (∀ q, q < j + 1 → X (q + 1) ≤ sz) := boxed (fun q hq => by
          by_cases c : q = j
          · subst c; rw [← HI.out]; omega
          · exact HQ.out q (by omega))
        clear cx hI
        generalize X I = Xi at *
        go_wp2_with fail
        go_quiet (fail)
        have HFn := boxed (HB.out.trans (bel_drewN _ wr nq))
        go_wp2_with fail
        go_roundw
        case rel => exact ⟨j + 1, I + 1, by rw [HI.out], by omega, by go_num, HQ2, HFn⟩
        case measure => simp [intOf] <;> omega
    · obtain rfl : j = N := by omega
      have hIM : I = M := by omega
      have t0 : decide ((I : Int) < (M : Int)) = false := decide_eq_false (by omega)
      have t0n : decide (I < M) = false := decide_eq_false (by omega)
      have HV := boxed (HFin.out (it y.tx (ls y.tx j)) (Or.inr ⟨HQ.out, rfl⟩))
      have hit := HIL.out (ls y.tx j)
      clear hI hIM hMM hI1
      generalize it y.tx (ls y.tx j) = Aj at *
      go_wp2_with fail
      refine (hend.out _).mono ?_
      rintro e w3 ⟨rfl, hb3⟩
      have HFn := boxed (below_step HFw.out (Nat.le_refl _) hb3)
      clear hb3
      go_wp2_with fail
      go_ret2
      exact ⟨⟨some (O + Aj), by (first | rfl | (unfold htW; simp; done) | (unfold htW; go_num)), HV.out⟩, HFn.out⟩
end Go.Proofs.Ytcdcpmcjlchfgaa
