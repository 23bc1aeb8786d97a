/-
  For every list of styles, every pages and every byte's number the law LocateSpots answers true: where the byte stands is told, or that there is none, or that it lies within a rune.
  No condition besides the statement's own (styles that aren't right, pages that aren't few, and pages with lines that aren't tried, are let go by the law itself).
-/
import Derived.Test.YtcdcpmcjlchfgaaRows
import Derived.WalkKit
import Derived.ProofKit
import Derived.OpenShut
import Derived.SizedLaws
import Derived.ShutString
import Derived.ChangeOld
import Derived.Below
import Derived.Test.YtcdcpmcjlchfgaaLpl
import Derived.Test.YtcdcpmcjlchfgaaLps
import Derived.Test.YtcdcpmcjlchfgaaLpr
import Derived.Deep.Cut
import Derived.Deep.RegionHeld3
import Derived.Lib.QuietBelow
import Derived.BigQuiet
namespace Go.Proofs.Ytcdcpmcjlchfgaa.locateSpots
open Go.ChangeShapes Go.WideShapes Go.ChangeAt Go.RowKit
open Go.ChangeMaps (open_string shut_string)
set_option linter.unusedVariables false
set_option linter.unusedSimpArgs false

theorem own : ownKnob Try.prog.godebug = none := by kernel_rfl
theorem laidOut : laidOutB Try.prog = true := by kernel_rfl

set_option maxRecDepth 100000 in
set_option maxHeartbeats 8000000 in
theorem walk (w : World) (ao0 : Option Addr) (n0 cap0 : Nat) (F0 : Nat → Sty) (hn0 : n0 ≤ cap0 ∧ cap0 * 80 ≤ 140737488351232) (hF0 : StysAt (fun _ => True) w ao0 n0 F0) (ao1 : Option Addr) (n1 cap1 : Nat) (P1 : Nat → Pgv) (hn1 : n1 ≤ maxLen ∧ Sl ao1 cap1 n1) (hP1 : PgsR (fun _ => True) w ao1 n1 P1) (a2 : Int) (w2 : (Lit.int .i64 a2).wf = true) :
    Calls Try.prog 5 #[.slice ao0 n0 cap0, .slice ao1 n1 cap1, .int .i64 a2] w fun e w' => e = .returned (.bool true) ∧ Below w.heap.size w w' := by
  have ha2 := wf_i64 w2
  have htb := boxed (fun W (hb : Below w.heap.size w W) => table_any (fun _ => True) ao0 n0 cap0 F0 W (hF0.below hb))
  have HF0 := boxed hF0
  have HP1 := boxed hP1
  have HN1 := boxed hn1
  have HFw := boxed (fun W (hb : Below w.heap.size w W) => few_any (fun _ => True) ao1 n1 cap1 P1 W (hP1.below hb) hn1.1)
  have HAw := boxed (fun W => awake_any W)
  clear hF0 hP1 hn1
  go_enter Try.func5, Try.ntmps5
  go_wp2_with fail
  refine (HAw.out _).mono ?_
  rintro e w1 ⟨rfl, hb1⟩
  have HB1 := boxed hb1
  clear hb1 HAw
  go_wp2_with fail
  refine (htb.out _ HB1.out).mono ?_
  rintro e w2 ⟨hor, hb2⟩
  have HB2 := boxed (below_step HB1.out (Nat.le_refl _) hb2)
  clear hb2 htb
  have hun : undef = Value.tuple #[] := rfl
  rcases hor with ⟨hne, rfl⟩ | ⟨hz, tb, G, rfl, hT, hL⟩
  · go_wp2_with fail
    go_ret
    exact ⟨rfl, HB2.out⟩
  have hg : ∀ i, i < n0 → flt (G i) = 0 := fun i hi => by rw [flt_like (hL i hi)]; exact (ckc_good F0 n0 hz).2.2 i hi
  have hgF : ∀ i, i < n0 → flt (F0 i) = 0 := (ckc_good F0 n0 hz).2.2
  have HT2 := boxed (hT.mono HB1.out.size)
  have HG := boxed hg
  have HGF := boxed hgF
  have HLk : Box (∀ a, Like (ofS F0 n0 a) (ofS G n0 a)) := boxed (ofS_like hL)
  clear hT hL hz hg hgF
  go_wp2_with fail
  refine (HFw.out _ HB2.out).mono ?_
  rintro e w3 ⟨⟨b, rfl, hb⟩, hb3⟩
  have HB3 := boxed (below_step HB2.out (Nat.le_refl _) hb3)
  have HT := boxed (HT2.out.below hb3)
  have HBb := boxed hb
  clear hb hb3 HFw HT2
  cases b with
  | false =>
    go_wp2_with fail
    go_ret
    exact ⟨rfl, HB3.out⟩
  | true =>
    have HFP := boxed (HBb.out (by first | rfl | trivial))
    have hsm := HFP.out.small
    clear HBb
    have hSp := spot_any HT.out HG.out ao1 n1 cap1 P1 a2 (HP1.out.below HB3.out) HN1.out.1 ha2 HFP.out
    have HRl := boxed (fun W (hb : Below w.heap.size w W) => refline_any (fun _ => True) ao1 n1 cap1 P1 a2 W (HP1.out.below hb) HN1.out.1 hsm)
    go_wp2_with fail
    refine hSp.mono ?_
    rintro e w4 ⟨⟨v, rfl, hv⟩, hb4⟩
    obtain ⟨r, a, b, x, er, rfl, hr, hf⟩ := sp_open HLk.out hv
    have HR := boxed hr
    have HV := boxed hf
    have HB4 := boxed (below_step HB3.out (Nat.le_refl _) hb4)
    clear hv hb4 hSp hr hf
    unfold spV
    have L4 := laid1 w4 (.cells #[.int .i64 a, .int .i64 b, .int .i64 x] 56)
    have HB5 := boxed (below_step HB4.out (Nat.le_refl _) L4.2.1)
    have HD5 := boxed (fun W (hb : Below (w4.alloc (.cells #[.int .i64 a, .int .i64 b, .int .i64 x] 56)).heap.size (w4.alloc (.cells #[.int .i64 a, .int .i64 b, .int .i64 x] 56)) W) => (⟨kept_first hb 0, kept_first hb 1, kept_first hb 2⟩ : W.cell? ⟨w4.heap.size, 0, none⟩ = some (.int .i64 a) ∧ W.cell? ⟨w4.heap.size, 1, none⟩ = some (.int .i64 b) ∧ W.cell? ⟨w4.heap.size, 2, none⟩ = some (.int .i64 x)))
    obtain ⟨w5, hw5⟩ : ∃ w5, w4.alloc (.cells #[.int .i64 a, .int .i64 b, .int .i64 x] 56) = w5 := ⟨_, rfl⟩
    rw [hw5] at HB5 HD5
    have HW5 := boxed hw5
    clear hw5 L4
    go_upto_region 7 with (fail)
    rw [HW5.out]
    go_wp2_with fail
    refine (HRl.out _ HB5.out).mono ?_
    rintro e w6 ⟨⟨q, rfl, hq⟩, hb6⟩
    have hqr := lnr_one hq HR.out
    subst hqr
    have HB6 := boxed (below_step HB5.out (Nat.le_refl _) hb6)
    have HD6 := boxed (fun W (hb : Below w6.heap.size w6 W) => HD5.out W (below_step hb6 (Nat.le_refl _) hb))
    clear hq hb6 HRl HD5 HW5
    have hge := fun op x y xs ys w => run_eqGuard_agg (P := Try.prog) w op 56 x y xs ys guardSpot
    have heq := eqSpot
    match q, HV, HR with
    | none, HV, HR =>
      obtain ⟨rfl, rfl, rfl, rfl⟩ := HV.out.1 rfl
      have L7 := laid1 w6 (.cells #[.int .i64 0, .int .i64 0, .int .i64 0] 29)
      have HFn := boxed (below_step HB6.out (Nat.le_refl _) L7.2.1)
      have HD7 := boxed (HD6.out _ L7.2.1)
      obtain ⟨w7, hw7⟩ : ∃ w7, w6.alloc (.cells #[.int .i64 0, .int .i64 0, .int .i64 0] 29) = w7 := ⟨_, rfl⟩
      rw [hw7] at HFn HD7
      have HW7 := boxed hw7
      obtain ⟨d0, d1, d2⟩ := HD7.out
      clear HV HR HD6 L7 hw7
      unfold lnW trV
      go_upto_region 8 with (fail)
      rw [HW7.out]
      go_wp2_with fail
      go_ret
      exact ⟨rfl, HFn.out⟩
    | some (p, k, i), HV, HR =>
      obtain ⟨N, hLP, hcase⟩ := HV.out.2 p k i rfl
      obtain ⟨hpn, hkl, hisz⟩ := lnr_at HR.out
      have L7 := laid1 w6 (.cells #[.int .i64 (p : Int), .int .i64 (k : Int), .int .i64 (i : Int)] 29)
      have HB7 := boxed (below_step HB6.out (Nat.le_refl _) L7.2.1)
      have HD7 := boxed (fun W (hb : Below (w6.alloc (.cells #[.int .i64 (p : Int), .int .i64 (k : Int), .int .i64 (i : Int)] 29)).heap.size (w6.alloc (.cells #[.int .i64 (p : Int), .int .i64 (k : Int), .int .i64 (i : Int)] 29)) W) => HD6.out W (below_step L7.2.1 (Nat.le_refl _) hb))
      have HE7 := boxed (fun W (hb : Below (w6.alloc (.cells #[.int .i64 (p : Int), .int .i64 (k : Int), .int .i64 (i : Int)] 29)).heap.size (w6.alloc (.cells #[.int .i64 (p : Int), .int .i64 (k : Int), .int .i64 (i : Int)] 29)) W) => (⟨kept_first hb 0, kept_first hb 1, kept_first hb 2⟩ : W.cell? ⟨w6.heap.size, 0, none⟩ = some (.int .i64 (p : Int)) ∧ W.cell? ⟨w6.heap.size, 1, none⟩ = some (.int .i64 (k : Int)) ∧ W.cell? ⟨w6.heap.size, 2, none⟩ = some (.int .i64 (i : Int))))
      obtain ⟨w7, hw7⟩ : ∃ w7, w6.alloc (.cells #[.int .i64 (p : Int), .int .i64 (k : Int), .int .i64 (i : Int)] 29) = w7 := ⟨_, rfl⟩
      rw [hw7] at HB7 HD7 HE7
      have HW7 := boxed hw7
      clear hw7 L7 HD6
      have HPk : Box (∀ W, Below w7.heap.size w7 W → PgsR (fun _ => True) W ao1 n1 P1) := boxed (fun W hb => HP1.out.below (below_step HB7.out (Nat.le_refl _) hb))
      obtain ⟨hok, hls, bp, op, hao, -, c0⟩ := (HPk.out w7 (Below.refl _ _)) p hpn
      subst hao
      obtain ⟨bl, ol, hla, -⟩ := hls.form (by omega)
      rw [hla] at hls c0
      obtain ⟨hp2, e0, e1, e2, e3, e4, e5, e6, e7, e8⟩ := hls.get k hkl
      have hrst := boxed (fun W (hb : Below w7.heap.size w7 W) => refstops_any (fun _ => True) ao0 n0 cap0 F0 W (HF0.out.below (below_step HB7.out (Nat.le_refl _) hb)) HGF.out (fun _ => True) ((P1 p).F k) (hp2.below hb) (hok.all k hkl).rn N hLP.ok (by have := hLP.tx; omega))
      have hpi : (p : Int) < (n1 : Int) := by omega
      have hki : (k : Int) < ((P1 p).ln : Int) := by omega
      have hNs : N ≤ 200 := by have := cnt_le ((P1 p).F k).tx N hLP.ok.1; have := it_le ((P1 p).F k).tx N; have := hLP.tx; omega
      have HMono : Box (∀ a b, a < b → b ≤ N → it ((P1 p).F k).tx a < it ((P1 p).F k).tx b) := boxed (fun a b h1 h2 => it_mono ((P1 p).F k).tx N hLP.ok.1.1 a b h1 h2)
      have HCase := boxed hcase
      clear hcase hok hls hp2 hla hLP hisz HPk HV HR HP1
      generalize hXX : (fun k' => xs (ofS F0 n0) ((P1 p).F k).L ((P1 p).F k).Y ((P1 p).F k).rn ((P1 p).F k).num ((P1 p).F k).den ((P1 p).F k).tx N k') = X at *
      have HCase2 : Box ((∃ j, j ≤ N ∧ it ((P1 p).F k).tx j = i ∧ a = (p : Int) ∧ b = (k : Int) ∧ x = X j ∧ er = 0) ∨ ((∀ j, j ≤ N → it ((P1 p).F k).tx j ≠ i) ∧ a = 0 ∧ b = 0 ∧ x = 0 ∧ er = 21)) := boxed (by rw [← hXX]; exact HCase.out)
      clear hXX HCase
      generalize (P1 p).lc = lc at *
      generalize (P1 p).ln = ln at *
      generalize (P1 p).F k = y at *
      unfold Lne.val at hrst
      obtain ⟨M, hM⟩ : ∃ M, N + 1 = M := ⟨_, rfl⟩
      rw [hM] at hrst
      have hMN : M ≤ 201 := by omega
      have HM := boxed hM
      clear hM
      have HCC : Box (∀ W, Below w7.heap.size w7 W → W.cell? ⟨w6.heap.size, 0, none⟩ = some (.int .i64 (p : Int)) ∧ W.cell? ⟨w6.heap.size, 1, none⟩ = some (.int .i64 (k : Int)) ∧ W.cell? ⟨bp, op + p, none⟩ = some (.slice (some ⟨bl, ol, none⟩) ln lc) ∧ W.cell? ⟨bl, ol + k * 9, none⟩ = some (.string y.tx) ∧ W.cell? ⟨bl, ol + k * 9 + 1, none⟩ = some (.slice y.ra y.rn y.rc) ∧ W.cell? ⟨bl, ol + k * 9 + 2, none⟩ = some (.int .i64 y.num) ∧ W.cell? ⟨bl, ol + k * 9 + 3, none⟩ = some (.int .i64 y.den) ∧ W.cell? ⟨bl, ol + k * 9 + 4, none⟩ = some (.int .i64 y.h) ∧ W.cell? ⟨bl, ol + k * 9 + 5, none⟩ = some (.bool y.hy) ∧ W.cell? ⟨bl, ol + k * 9 + 6, none⟩ = some (.int .i64 y.y) ∧ W.cell? ⟨bl, ol + k * 9 + 7, none⟩ = some (.bool y.bg) ∧ W.cell? ⟨bl, ol + k * 9 + 8, none⟩ = some (.bool y.en)) := boxed (fun W hb => ⟨(HE7.out W hb).1, (HE7.out W hb).2.1, hold hb c0, hold hb e0, hold hb e1, hold hb e2, hold hb e3, hold hb e4, hold hb e5, hold hb e6, hold hb e7, hold hb e8⟩)
      have HDr : Box (Below w7.heap.size w7 w7.drew) := boxed (Below.refl _ _).drew
      clear c0 e0 e1 e2 e3 e4 e5 e6 e7 e8
      unfold lnW trV
      go_upto_region 8 with (fail)
      rw [HW7.out]
      go_wp2_with fail
      go_region_held3 (fun W => W.cell? ⟨w6.heap.size, 0, none⟩ = some (.int .i64 (p : Int)) ∧ W.cell? ⟨w6.heap.size, 1, none⟩ = some (.int .i64 (k : Int)) ∧ W.cell? ⟨bp, op + p, none⟩ = some (.slice (some ⟨bl, ol, none⟩) ln lc) ∧ W.cell? ⟨bl, ol + k * 9, none⟩ = some (.string y.tx) ∧ W.cell? ⟨bl, ol + k * 9 + 1, none⟩ = some (.slice y.ra y.rn y.rc) ∧ W.cell? ⟨bl, ol + k * 9 + 2, none⟩ = some (.int .i64 y.num) ∧ W.cell? ⟨bl, ol + k * 9 + 3, none⟩ = some (.int .i64 y.den) ∧ W.cell? ⟨bl, ol + k * 9 + 4, none⟩ = some (.int .i64 y.h) ∧ W.cell? ⟨bl, ol + k * 9 + 5, none⟩ = some (.bool y.hy) ∧ W.cell? ⟨bl, ol + k * 9 + 6, none⟩ = some (.int .i64 y.y) ∧ W.cell? ⟨bl, ol + k * 9 + 7, none⟩ = some (.bool y.bg) ∧ W.cell? ⟨bl, ol + k * 9 + 8, none⟩ = some (.bool y.en))
        (first | with_reducible exact HCC.out _ HDr.out | with_reducible exact HCC.out _ HB8.out)
        (first | (go_at_call 20; refine (hrst.out _ HDr.out).mono ?_; rintro e w8 ⟨⟨ro, rc, rfl, hp8⟩, hb8⟩; have HB8 := boxed (below_step HDr.out (Nat.le_refl _) hb8); have HP8 := boxed hp8; clear hb8 hp8))
      have HD8 := boxed (fun W (hb : Below w8.heap.size w8 W) => HD7.out W (below_step HB8.out (Nat.le_refl _) hb))
      have HE8 := boxed (fun W (hb : Below w8.heap.size w8 W) => HE7.out W (below_step HB8.out (Nat.le_refl _) hb))
      have HB9 := boxed (below_step HB7.out (Nat.le_refl _) HB8.out)
      clear hrst HCC HDr HD7 HE7 HB8 hun
      go_wp2_with fail
      go_loopw [13] (fun iv wr => ∃ j : Nat, j ≤ M ∧ iv = .int .i64 (j : Nat) ∧ Box (∀ q, q < j → it y.tx q ≠ i) ∧ Box (Below w8.heap.size w8 wr)) (fun iv _ => M - (intOf iv).toNat)
      case atStart => exact ⟨0, Nat.zero_le _, rfl, boxed (fun q hq => by omega), boxed (Below.refl _ _)⟩
      case round =>
        obtain ⟨j, hj, rfl, HQ, HB⟩ := hrel
        have hge := fun op x y xs ys w => run_eqGuard_agg (P := Try.prog) w op 56 x y xs ys guardSpot
        have heq := eqSpot
        obtain ⟨d0, d1, d2⟩ := HD8.out _ HB.out
        by_cases hlt : j < M
        · have t0 : decide ((j : Int) < (M : Int)) = true := decide_eq_true (by omega)
          have hlt2 : (j : Int) < (M : Int) := by omega
          have hpb := HP8.out.below HB.out
          obtain ⟨rb, rf, rfl, -⟩ := hpb.form (by omega)
          obtain ⟨q0, q1⟩ := hpb.get j hlt
          obtain ⟨f0, f1, f2⟩ := HE8.out _ HB.out
          clear hpb
          by_cases cj : it y.tx j = i
          · have HCx : Box (a = (p : Int) ∧ b = (k : Int) ∧ x = X j ∧ er = 0) := boxed (by
              have hMM := HM.out
              rcases HCase2.out with ⟨j', h1, h2, h3⟩ | ⟨h1, -⟩
              · have e : j' = j := by
                  rcases Nat.lt_trichotomy j' j with c | c | c
                  · have := HMono.out j' j c (by omega); omega
                  · exact c
                  · have := HMono.out j j' c (by omega); omega
                rw [e] at h3
                exact h3
              · exact absurd cj (h1 j (by omega)))
            obtain ⟨ha, hb, hx, he⟩ := HCx.out
            rw [cj] at q0
            have HFn := boxed (fun q => below_step HB9.out (Nat.le_refl _) (HB.out.trans (bel_drewN _ wr q)))
            rw [← hx] at q1
            subst ha; subst hb; subst he
            have HF2 : Box (∀ q1 q2, Below w.heap.size w ((wr.drewN q1).drewN q2)) := boxed (fun q1 q2 => (HFn.out q1).trans (bel_drewN _ _ q2))
            clear HCx HCase2 hx cj
            go_wp2_with fail
            go_quiet (fail)
            go_wp2_with fail
            go_quiet (fail)
            go_wp2_with fail
            go_ret
            first
              | exact ⟨rfl, HFn.out _⟩
              | exact ⟨rfl, HF2.out _ _⟩
          · have tj : (((it y.tx j : Nat) : Int) == (i : Int)) = false := by rw [beq_eq_false_iff_ne]; omega
            have HQ2 : Box (∀ q, q < j + 1 → it y.tx q ≠ i) := boxed (fun q hq => by
              by_cases c : q = j
              · subst c; exact cj
              · exact HQ.out q (by omega))
            clear cj d0 d1 d2 hge heq
            generalize it y.tx j = A at *
            go_wp2_with fail
            go_quiet (fail)
            have HBn := boxed (HB.out.trans (bel_drewN _ wr nq))
            go_wp2_with fail
            go_roundw
            case rel => exact ⟨j + 1, by omega, by go_num, HQ2, HBn⟩
            case measure => simp [intOf] <;> omega
        · obtain rfl : j = M := by omega
          have t0 : decide ((j : Int) < (j : Int)) = false := decide_eq_false (by omega)
          have HCx : Box (a = 0 ∧ b = 0 ∧ x = 0 ∧ er = 21) := boxed (by
            have hMM := HM.out
            rcases HCase2.out with ⟨j', h1, h2, -⟩ | ⟨-, h⟩
            · exact absurd h2 (HQ.out j' (by omega))
            · exact h)
          obtain ⟨rfl, rfl, rfl, rfl⟩ := HCx.out
          have HFn := boxed (below_step HB9.out (Nat.le_refl _) HB.out)
          clear HCx HCase2
          go_wp2_with fail
          go_ret
          exact ⟨rfl, HFn.out⟩

set_option maxRecDepth 100000 in
theorem lifted (os : Os) (started : os.Started) (H : Type) (enc : TypeId × Value → H) :
    ReturnsInHanded {} Try.checked os 5 .any (Rows.locateSpotsSpec.pre6 enc Try.prog Try.f5 Rows.locateSpotsRow.domain false) (Rows.locateSpotsSpec.post enc Try.prog Try.f5 false true false false) := by
  refine returnsInHanded_of_change_sized (C := Try.checked) own started (by kernel_rfl) Try.func5
    (ChangeSpec.witness6 (enc := enc) (C := Try.checked) false ⟨#[], #[.slice none 0 0, .slice none 0 0, .int .i64 0], []⟩ 8 (by kernel_rfl) (by kernel_rfl) (by kernel_rfl) (by kernel_rfl)) ?_
  intro W base args ds gs before hval0 hW hcnd hsz0 _
  have hval : ∀ (j : Nat) t v, Try.f5.params[j]? = some t → args[j]? = some v → Value.okWide Try.prog W .any base t v := hval0
  have hsz : (DataW.weightsEach Try.prog (Try.f5.params.toList ++ Rows.locateSpotsSpec.plain.varTypes Try.prog) (ds ++ gs)).all (· ≤ reachBytes) = true := hsz0
  have hW' := hW
  obtain ⟨p, q, hA0, hV, rfl, hfz, hnd⟩ := hW
  have hA : DataW.TrodAll enc Try.prog W 0 (fun _ => true) true Try.f5.params.toList args.toList ds p := hA0
  rw [Try.params5] at hA hval hsz
  obtain ⟨v0, vs0, d0, ds0, p0, q0, hargs, rfl, rfl, h0, r0⟩ := trodAll_cons hA
  obtain ⟨v1, vs1, d1, ds1, p1, q1, rfl, rfl, rfl, h1, r1⟩ := trodAll_cons r0
  obtain ⟨v2, vs2, d2, ds2, p2, q2, rfl, rfl, rfl, h2, r2⟩ := trodAll_cons r1
  obtain ⟨rfl, rfl, rfl⟩ := trodAll_nil r2
  obtain rfl : args = #[v0, v1, v2] := by cases args; simp_all
  obtain ⟨rfl, rfl⟩ := trodVars_none hV
  obtain ⟨ao0, n0, cap0, rfl⟩ := okWide_slice Try.underlying38 (hval 0 38 v0 rfl rfl)
  have k0 := h0
  have lt0 : ∀ x ∈ p0, x.block < W.heap.size := by obtain ⟨m, hm⟩ := k0; exact DataW.trod_lt m _ _ _ hm
  obtain ⟨hn0, -, F0, hF0⟩ : (n0 ≤ cap0 ∧ cap0 * 80 ≤ 140737488351232) ∧ (ao0 = none → n0 = 0 ∧ cap0 = 0) ∧ ∃ F, StysAt (fun _ => True) W ao0 n0 F := by
    obtain ⟨fuel, hf⟩ := k0
    exact open_styles hf (fun n hn => by simpa using List.all_eq_true.1 hsz _ (DataW.weights_mem_each (j := 0) rfl rfl n hn))
  obtain ⟨ao1, n1, cap1, rfl⟩ := okWide_slice Try.underlying22 (hval 1 22 v1 rfl rfl)
  have k1 := h1
  have lt1 : ∀ x ∈ p1, x.block < W.heap.size := by obtain ⟨m, hm⟩ := k1; exact DataW.trod_lt m _ _ _ hm
  obtain ⟨hn1, P1, hP1⟩ : (n1 ≤ maxLen ∧ Sl ao1 cap1 n1) ∧ ∃ P, PgsR (fun _ => True) W ao1 n1 P := by
    obtain ⟨fuel, hf⟩ := k1
    exact open_pages hf (fun n hn => by simpa using List.all_eq_true.1 hsz _ (DataW.weights_mem_each (j := 1) rfl rfl n hn))
  obtain ⟨a2, rfl, rfl, rfl, w2⟩ := open_int Try.underlying3 (hval 2 3 v2 rfl rfl) h2
  clear hA0 hval0
  refine (walk W ao0 n0 cap0 F0 hn0 hF0 ao1 n1 cap1 P1 hn1 hP1 a2 w2).mono fun e W' ⟨he, hg⟩ => ?_
  subst he
  exact ⟨_, rfl, _, _, _, [], _, [], hW', trodAll_mk1 (shut_bool Try.underlying4 _), (trodAll_cons_mk (Below.trod laidOut (by kernel_rfl) (of_decide_eq_true (by kernel_rfl)) k0 hg lt0) (trodAll_cons_mk (Below.trod laidOut (by kernel_rfl) (of_decide_eq_true (by kernel_rfl)) k1 hg lt1) (trodAll_cons_mk (shut_int Try.underlying3 w2) trodAll_mk0))), rfl, hg.frame _, fun h => by cases h⟩

theorem proved : Rows.LocateSpotsSaid :=
  OpenClaim.holds_of_wide 5 Try.f5 rfl rfl rfl rfl rfl rfl rfl ⟨rfl, rfl, rfl, rfl, rfl⟩ rfl rfl rfl rfl rfl (by kernel_rfl) Try.func5 (by kernel_rfl)
    (of_decide_eq_true (by kernel_rfl)) (by unfold Func.isWrapper; first | (rw [if_pos (by decide +kernel)]; kernel_rfl) | (rw [if_neg (by decide +kernel)]; exact ⟨rfl, rfl⟩))
    (fun os started H enc _ => lifted os started H enc)
#print axioms proved
end Go.Proofs.Ytcdcpmcjlchfgaa.locateSpots
