/-
  How wide a line is: what the program's Width and the document's answer.
-/
import Derived.Test.YtcdcpmcjlchfgaaLpl
namespace Go.Proofs.Ytcdcpmcjlchfgaa
open Go.RowKit
set_option linter.unusedSimpArgs false
set_option linter.unusedVariables false

/-- How wide a line is, with its hyphen. -/
def wdT (G : Int → Sty) (x : Lne) (N : Nat) : Int := if x.hy = true then ad (xs G x.L x.Y x.rn x.num x.den x.tx N N) (G (lstS x.L x.Y x.rn)).hy else xs G x.L x.Y x.rn x.num x.den x.tx N N
theorem wdT_like {G K : Int → Sty} (h : ∀ a, Like (G a) (K a)) (x : Lne) (N : Nat) : wdT K x N = wdT G x N := by
  unfold wdT
  rw [xs_like h, (h _).hy]
set_option maxRecDepth 100000 in
set_option maxHeartbeats 8000000 in
theorem pwidth_any {B : Nat} {w : World} {tb n : Nat} {G : Nat → Sty} (h : TabAt B w tb n G) (hg : ∀ i, i < n → flt (G i) = 0) (S : Nat → Prop) (x : Lne) (hp : P2At S w x.ra x.rn x.L x.Y) (hrn : x.rn ≤ maxLen ∧ x.rn ≤ x.rc) (N : Nat) (hN : Right x.tx N) (hs : x.tx.size ≤ 1000) :
    Calls Try.prog 21 #[.pointer (some ⟨tb, 0, none⟩), x.val] w fun e w' => e = .returned (.int .i64 (wdT (ofS G n) x N)) ∧ Below w.heap.size w w' := by
  obtain ⟨w0, hw0, hB0, hz0, hLn⟩ := lnat_new w x
  have hst := stops_any (h.below hB0) hg S x (hp.below hB0) hrn N hN hs
  have HW0 := boxed hw0
  have HB0 := boxed hB0
  have HLn := boxed hLn
  have HTab := boxed h
  have HP := boxed hp
  have HRN := boxed hrn
  have HWT : Box (wdT (ofS G n) x N = if x.hy = true then ad (xs (ofS G n) x.L x.Y x.rn x.num x.den x.tx N N) (ofS G n (lstS x.L x.Y x.rn)).hy else xs (ofS G n) x.L x.Y x.rn x.num x.den x.tx N N) := boxed rfl
  obtain ⟨c0, c1, c2, c3, c4, c5, c6, c7, c8⟩ := (hLn w0 (Below.refl _ _)).cells
  obtain ⟨M, hM⟩ : ∃ M, N + 1 = M := ⟨_, rfl⟩
  have hMN : N < M := by omega
  have hMN2 : (N : Int) < (M : Int) := by omega
  have e1 : (M : Int) - 1 = (N : Int) := by omega
  rw [hM] at hst
  have hNs : N ≤ 1000 := by have := cnt_le x.tx N hN.1; have := it_le x.tx N; omega
  clear h hw0 hB0 hLn hp hrn hN hg hM
  generalize wdT (ofS G n) x N = V at *
  unfold Lne.val at *
  go_enter Try.func21, Try.ntmps21
  go_upto_region 1 with (fail)
  rw [HW0.out]
  go_wp2_with fail
  refine hst.mono ?_
  rintro e w1 ⟨⟨mb, rfl, hst1⟩, hb1⟩
  obtain ⟨-, q1⟩ := hst1.get N hMN
  simp only [Nat.zero_add] at q1
  have HB1 := boxed (below_step HB0.out (Nat.le_refl _) hb1)
  obtain ⟨-, d1, -, -, -, d5, -⟩ := (HLn.out _ hb1).cells
  clear hst hst1 hb1 c0 c1 c2 c3 c4 c5 c6 c7 c8
  generalize xs (ofS G n) x.L x.Y x.rn x.num x.den x.tx N N = XN at *
  cases hhy : x.hy with
  | false =>
    have HV : Box (V = XN) := boxed (by rw [HWT.out, hhy]; rfl)
    rw [hhy] at d5
    go_wp2_with fail
    go_ret
    exact ⟨by rw [HV.out]; rfl, HB1.out⟩
  | true =>
    have HV : Box (V = ad XN (ofS G n (lstS x.L x.Y x.rn)).hy) := boxed (by rw [HWT.out, hhy]; rfl)
    rw [hhy] at d5
    have hls := laststyle_any S x.ra x.rn x.rc x.L x.Y w1 (HP.out.below HB1.out) HRN.out.1
    have hhp := hyphen_any (HTab.out.below HB1.out) (lstS x.L x.Y x.rn)
    generalize lstS x.L x.Y x.rn = ST at *
    generalize (ofS G n ST).hy = HY at *
    clear HWT
    go_wp2_with fail
    refine hls.mono ?_
    rintro e w2 ⟨rfl, hw2⟩
    subst hw2
    go_wp2_with fail
    refine hhp.mono ?_
    rintro e w3 ⟨rfl, hb3⟩
    have HB3 := boxed (below_step HB1.out (Nat.le_refl _) hb3)
    clear hb3 hhp hls d1 d5 q1
    go_wp2_with fail
    refine (add_any XN HY _).mono ?_
    rintro e w4 ⟨rfl, hw4⟩
    subst hw4
    go_wp2_with fail
    go_ret
    exact ⟨by rw [HV.out]; rfl, HB3.out⟩
set_option maxRecDepth 100000 in
set_option maxHeartbeats 8000000 in
theorem rwidth_any (SF : Nat → Prop) (fo : Option Addr) (n fc : Nat) (G : Nat → Sty) (w : World) (h : StysAt SF w fo n G) (hg : ∀ i, i < n → flt (G i) = 0) (S : Nat → Prop) (x : Lne) (hp : P2At S w x.ra x.rn x.L x.Y) (hrn : x.rn ≤ maxLen ∧ x.rn ≤ x.rc) (N : Nat) (hN : Right x.tx N) (hs : x.tx.size ≤ 1000) :
    Calls Try.prog 22 #[.slice fo n fc, x.val] w fun e w' => e = .returned (.int .i64 (wdT (ofS G n) x N)) ∧ Below w.heap.size w w' := by
  obtain ⟨w0, hw0, hB0, hz0, hLn⟩ := lnat_new w x
  have hst := refstops_any SF fo n fc G w0 (h.below hB0) hg S x (hp.below hB0) hrn N hN hs
  have hf := fld4
  have HW0 := boxed hw0
  have HB0 := boxed hB0
  have HLn := boxed hLn
  have HSt := boxed h
  have HP := boxed hp
  have hrl := hrn.1
  unfold maxLen at hrl
  have HWT : Box (wdT (ofS G n) x N = if x.hy = true then ad (xs (ofS G n) x.L x.Y x.rn x.num x.den x.tx N N) (ofS G n (lstS x.L x.Y x.rn)).hy else xs (ofS G n) x.L x.Y x.rn x.num x.den x.tx N N) := boxed rfl
  obtain ⟨c0, c1, c2, c3, c4, c5, c6, c7, c8⟩ := (hLn w0 (Below.refl _ _)).cells
  obtain ⟨M, hM⟩ : ∃ M, N + 1 = M := ⟨_, rfl⟩
  have hMN : N < M := by omega
  have hMN2 : (N : Int) < (M : Int) := by omega
  have e1 : (M : Int) - 1 = (N : Int) := by omega
  rw [hM] at hst
  have hNs : N ≤ 1000 := by have := cnt_le x.tx N hN.1; have := it_le x.tx N; omega
  clear h hw0 hB0 hLn hp hrn hN hg hM
  generalize wdT (ofS G n) x N = V at *
  unfold Lne.val at *
  go_enter Try.func22, Try.ntmps22
  go_upto_region 1 with (fail)
  rw [HW0.out]
  go_wp2_with fail
  refine hst.mono ?_
  rintro e w1 ⟨⟨ro, rc, rfl, hst1⟩, hb1⟩
  obtain ⟨mb, mo, rfl, -⟩ := hst1.form (by omega)
  obtain ⟨-, q1⟩ := hst1.get N hMN
  have HB1 := boxed (below_step HB0.out (Nat.le_refl _) hb1)
  have HLn1 := boxed (fun W (hb : Below w1.heap.size w1 W) => HLn.out W (below_step hb1 (Nat.le_refl _) hb))
  obtain ⟨-, d1, -, -, -, d5, -⟩ := (HLn.out _ hb1).cells
  clear hst hst1 hb1 c0 c1 c2 c3 c4 c5 c6 c7 c8
  generalize xs (ofS G n) x.L x.Y x.rn x.num x.den x.tx N N = XN at *
  cases hhy : x.hy with
  | false =>
    have HV : Box (V = XN) := boxed (by rw [HWT.out, hhy]; rfl)
    rw [hhy] at d5
    go_wp2_with fail
    go_ret
    exact ⟨by rw [HV.out]; rfl, HB1.out⟩
  | true =>
    have HV : Box (V = ad XN (ofS G n (lstS x.L x.Y x.rn)).hy) := boxed (by rw [HWT.out, hhy]; rfl)
    rw [hhy] at d5
    have HPr := boxed (HP.out.below HB1.out)
    have hof := boxed (fun a => refof_any SF fo n fc G w1 (HSt.out.below HB1.out) a)
    clear HWT
    go_wp2_with fail
    clear q1 d5 hMN hMN2 e1
    go_loopw [7, 8] (fun kv iv wr => ∃ i : Nat, i ≤ x.rn ∧ iv = .int .i64 (i : Nat) ∧ kv = .int .i64 (lstS x.L x.Y i) ∧ wr = w1) (fun _ iv _ => x.rn - (intOf iv).toNat)
    case atStart => exact ⟨0, Nat.zero_le _, rfl, rfl, rfl⟩
    case round =>
      obtain ⟨i, hi, rfl, rfl, rfl⟩ := hrel
      have HLS : Box (lstS x.L x.Y (i + 1) = if 0 < x.L i then x.Y i else lstS x.L x.Y i) := boxed rfl
      by_cases hlt : i < x.rn
      · have t0 : decide ((i : Int) < (x.rn : Int)) = true := decide_eq_true (by omega)
        have hlt2 : (i : Int) < (x.rn : Int) := by omega
        obtain ⟨b, off, hra, -⟩ := HPr.out.form (by omega)
        have hpr := HPr.out
        rw [hra] at hpr d1
        obtain ⟨c0, c1⟩ := hpr.get i hlt
        by_cases cy : 0 < x.L i
        · have ty : decide (0 < x.L i) = true := decide_eq_true cy
          have HV2 : Box (lstS x.L x.Y (i + 1) = x.Y i) := boxed (by rw [HLS.out, if_pos cy])
          clear cy hra hpr
          go_wp2_with fail
          go_roundw
          case rel => exact ⟨i + 1, by omega, by go_num, by rw [HV2.out], (by first | rfl | trivial)⟩
          case measure => simp [intOf] <;> omega
        · have ty : decide (0 < x.L i) = false := decide_eq_false cy
          have HV2 : Box (lstS x.L x.Y (i + 1) = lstS x.L x.Y i) := boxed (by rw [HLS.out, if_neg cy])
          clear cy hra hpr
          go_wp2_with fail
          go_roundw
          case rel => exact ⟨i + 1, by omega, by go_num, by rw [HV2.out], (by first | rfl | trivial)⟩
          case measure => simp [intOf] <;> omega
      · have hie : i = x.rn := by omega
        have t0 : decide ((i : Int) < (x.rn : Int)) = false := decide_eq_false (by omega)
        have HV2 : Box (V = ad XN (ofS G n (lstS x.L x.Y i)).hy) := boxed (by rw [HV.out, hie])
        have hof2 := hof.out (lstS x.L x.Y i)
        clear hie hof
        generalize lstS x.L x.Y i = ST at *
        obtain ⟨s, hs⟩ : ∃ s, ofS G n ST = s := ⟨_, rfl⟩
        rw [hs] at hof2 HV2
        clear hs
        obtain ⟨sh0, sp, st, sh, shy, sot, sra, srn, src, skp, sR⟩ := s
        unfold Sty.val at hof2
        simp only at hof2 HV2
        go_wp2_with fail
        refine hof2.mono ?_
        rintro e w2 ⟨rfl, hb2⟩
        have HB2 := boxed (below_step HB1.out (Nat.le_refl _) hb2)
        clear hb2 hof2
        go_wp2_with fail
        refine (refadd_any XN shy _).mono ?_
        rintro e w4 ⟨rfl, hw4⟩
        subst hw4
        go_wp2_with fail
        go_ret
        exact ⟨by rw [HV2.out]; rfl, HB2.out⟩
end Go.Proofs.Ytcdcpmcjlchfgaa
