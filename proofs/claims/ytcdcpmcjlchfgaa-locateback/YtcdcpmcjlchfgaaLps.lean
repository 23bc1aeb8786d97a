/-
  What the program's Spot answers.
-/
import Derived.Test.YtcdcpmcjlchfgaaLpo
namespace Go.Proofs.Ytcdcpmcjlchfgaa
open Go.RowKit
set_option linter.unusedSimpArgs false
set_option linter.unusedVariables false

def spV (a b x e : Int) : Value := .tuple #[.agg #[.int .i64 a, .int .i64 b, .int .i64 x], .int .i64 e]
/-- Where a byte stands. -/
def SpP (G : Int → Sty) (n : Nat) (P : Nat → Pgv) (a : Int) (v : Value) : Prop := ∃ r, LnR n P a r ∧ match r with
  | none => v = spV 0 0 0 30
  | some (p, k, i) => ∃ N, LnP ((P p).F k) N ∧ ((∃ j, j ≤ N ∧ it ((P p).F k).tx j = i ∧ v = spV p k (xs G ((P p).F k).L ((P p).F k).Y ((P p).F k).rn ((P p).F k).num ((P p).F k).den ((P p).F k).tx N j) 0) ∨ ((∀ j, j ≤ N → it ((P p).F k).tx j ≠ i) ∧ v = spV 0 0 0 21))
theorem lnr_at {n : Nat} {P : Nat → Pgv} {a : Int} {p k i : Nat} (h : LnR n P a (some (p, k, i))) : p < n ∧ k < (P p).ln ∧ i ≤ ((P p).F k).tx.size := by
  rcases h with ⟨-, h1, h2, h3, -⟩ | ⟨-, ⟨h1, h2, -⟩, h3⟩
  · exact ⟨h1, h2, by omega⟩
  · exact ⟨h1, by omega, by omega⟩
theorem spot_new (w : World) : ∃ w0, w.alloc (.cells #[.int .i64 0, .int .i64 0, .int .i64 0] 56) = w0 ∧ Below w.heap.size w w0 ∧ ∀ W, Below w0.heap.size w0 W → W.heap[w.heap.size]? = some (.cells #[.int .i64 0, .int .i64 0, .int .i64 0] 56 (0, 0)) :=
  ⟨_, rfl, (Below.refl _ _).alloc (Nat.le_refl _) _, fun W hb => by rw [hb.block w.heap.size (by simp)]; exact heap_alloc_new w _⟩
set_option maxRecDepth 100000 in
set_option maxHeartbeats 8000000 in
theorem spot_any {B : Nat} {w : World} {tb m : Nat} {G : Nat → Sty} (h : TabAt B w tb m G) (hg : ∀ i, i < m → flt (G i) = 0) (ao : Option Addr) (n cap : Nat) (P : Nat → Pgv) (at' : Int) (hP : PgsR (fun _ => True) w ao n P) (hn : n ≤ maxLen) (ha : I64 at') (hF : FewP n P) :
    Calls Try.prog 23 #[.pointer (some ⟨tb, 0, none⟩), .slice ao n cap, .int .i64 at'] w fun e w' => (∃ v, e = .returned v ∧ SpP (ofS G m) n P at' v) ∧ Below w.heap.size w w' := by
  obtain ⟨w0, hw0, hB0, hN⟩ := spot_new w
  have hln := line_any (fun _ => True) ao n cap P at' w0 (hP.below hB0) hn ha
  have HW0 := boxed hw0
  have HB0 := boxed hB0
  have HN := boxed hN
  have HPg := boxed hP
  have HTab := boxed h
  have HG := boxed hg
  have HF := boxed hF
  clear h hg hP hn ha hF hw0 hB0 hN
  go_enter Try.func23, Try.ntmps23
  go_upto_region 1 with (fail)
  rw [HW0.out]
  go_wp2_with fail
  refine hln.mono ?_
  rintro e w1 ⟨⟨r, rfl, hr⟩, hb1⟩
  have HR := boxed hr
  have HN1 := boxed (fun W (hb : Below w1.heap.size w1 W) => HN.out W (below_step hb1 (Nat.le_refl _) hb))
  have HB1 := boxed (below_step HB0.out (Nat.le_refl _) hb1)
  clear hr hb1 hln HN
  match r, HR with
  | none, HR =>
    have e1 := HN1.out w1 (Below.refl _ _)
    obtain ⟨⟨d0, d1, d2⟩, z0, z1, z2⟩ := cells3 e1
    have HP := put3_all e1 (.int .i64 0) (.int .i64 0) (.int .i64 0)
    have HFr := boxed (HB1.out.trans (grown_below HP.2.1 (Nat.le_refl _) HB1.out.size))
    have HRr := boxed HP.2.2
    have HFin : Box (SpP (ofS G m) n P at' (spV 0 0 0 30)) := boxed ⟨none, HR.out, rfl⟩
    clear HP e1
    unfold lnT
    go_wp2_with fail
    refine bodyPost_ret (v := spV 0 0 0 30) ?_ ?_ ?_
    · exact results_row_tmp Try.results23 _ _ w.heap.size 56 _ (0, 0) _ rfl HRr.out Try.underlying56 rfl (by kernel_rfl)
    · rfl
    · exact ⟨⟨_, rfl, HFin.out⟩, HFr.out⟩
  | some (p, k, i), HR =>
    obtain ⟨hpn, hkl, hisz⟩ := lnr_at HR.out
    obtain ⟨hok, hls, b, off, rfl, -, c0⟩ := (HPg.out.below HB1.out) p hpn
    obtain ⟨b', off', hla, -⟩ := hls.form (by omega)
    rw [hla] at hls c0
    obtain ⟨hp2, d0, d1, d2, d3, d4, d5, d6, d7, d8⟩ := hls.get k hkl
    obtain ⟨N, hLP⟩ := HF.out.ok p k hpn hkl
    have hst := stops_any (HTab.out.below HB1.out) HG.out (fun _ => True) ((P p).F k) hp2 (hok.all k hkl).rn N hLP.ok (by have := hLP.tx; omega)
    have hpi : (p : Int) < (n : Int) := by omega
    have hki : (k : Int) < ((P p).ln : Int) := by omega
    have hNs : N ≤ 200 := by have := cnt_le ((P p).F k).tx N hLP.ok.1; have := it_le ((P p).F k).tx N; have := hLP.tx; omega
    have HMono : Box (∀ i j, i < j → j < N + 1 → (it ((P p).F k).tx i : Int) < (it ((P p).F k).tx j : Int)) := boxed (fun i j h1 h2 => by
      have := it_mono ((P p).F k).tx N hLP.ok.1.1 i j h1 (by omega)
      omega)
    have HFin : Box (∀ v, ((∃ j, j ≤ N ∧ it ((P p).F k).tx j = i ∧ v = spV p k (xs (ofS G m) ((P p).F k).L ((P p).F k).Y ((P p).F k).rn ((P p).F k).num ((P p).F k).den ((P p).F k).tx N j) 0) ∨ ((∀ j, j ≤ N → it ((P p).F k).tx j ≠ i) ∧ v = spV 0 0 0 21)) → SpP (ofS G m) n P at' v) := boxed (fun v hv => ⟨some (p, k, i), HR.out, N, hLP, hv⟩)
    clear hok hls hp2 hla hLP hisz HF HTab HG HPg
    generalize hXX : (fun k' => xs (ofS G m) ((P p).F k).L ((P p).F k).Y ((P p).F k).rn ((P p).F k).num ((P p).F k).den ((P p).F k).tx N k') = X at *
    have HFin2 : Box (∀ v, ((∃ j, j ≤ N ∧ it ((P p).F k).tx j = i ∧ v = spV p k (X j) 0) ∨ ((∀ j, j ≤ N → it ((P p).F k).tx j ≠ i) ∧ v = spV 0 0 0 21)) → SpP (ofS G m) n P at' v) := boxed (by rw [← hXX]; exact HFin.out)
    clear hXX HFin
    generalize (P p).lc = lc at *
    generalize (P p).ln = ln at *
    generalize (P p).F k = x at *
    unfold Lne.val at hst
    obtain ⟨M, hM⟩ : ∃ M, N + 1 = M := ⟨_, rfl⟩
    rw [hM] at hst HMono
    have hMN : M ≤ 201 := by omega
    have HM := boxed hM
    clear hM
    unfold lnT
    go_wp2_with fail
    refine hst.mono ?_
    rintro e w2 ⟨⟨mb, rfl, hs2⟩, hb2⟩
    have HS2 := boxed hs2
    have HB2 := boxed (below_step HB1.out (Nat.le_refl _) hb2)
    have HN2 := boxed (fun W (hb : Below w2.heap.size w2 W) => HN1.out W (below_step hb2 (Nat.le_refl _) hb))
    have hbs := bsf_any _ mb 0 M M (fun k => (it x.tx k : Int)) X (i : Int) w2 hs2 (by omega) HMono.out
    clear hs2 hb2 hst HN1 c0 d0 d1 d2 d3 d4 d5 d6 d7 d8
    go_wp2_with fail
    refine hbs.mono ?_
    rintro e w3 ⟨⟨q, f, rfl, hq⟩, hb3⟩
    have HQ := boxed hq
    have HB3 := boxed (below_step HB2.out (Nat.le_refl _) hb3)
    have HS3 := boxed (HS2.out.below hb3)
    have e1 := HN2.out w3 hb3
    obtain ⟨⟨d0, d1, d2⟩, z0, z1, z2⟩ := cells3 e1
    clear hq hb3 hbs HS2 HN2
    cases f with
    | false =>
      have HP := put3_all e1 (.int .i64 0) (.int .i64 0) (.int .i64 0)
      have HFr := boxed (HB3.out.trans (grown_below HP.2.1 (Nat.le_refl _) HB3.out.size))
      have HRr := boxed HP.2.2
      have HFi : Box (SpP (ofS G m) n P at' (spV 0 0 0 21)) := boxed (HFin2.out _ (Or.inr ⟨fun j hj e => by
        obtain ⟨⟨h1, h2, h3⟩, h4⟩ := HQ.out
        have hMM := HM.out
        have hne : ¬ (q < M ∧ (it x.tx q : Int) = (i : Int)) := fun hh => by have := h4.2 hh; cases this
        have hjM : j < M := by omega
        by_cases c : j < q
        · have := h2 j c
          dsimp only at this
          omega
        · have h5 := h3 q (Nat.le_refl _) (by omega)
          dsimp only at h5
          by_cases d : q = j
          · subst d
            exact hne ⟨hjM, by omega⟩
          · have := HMono.out q j (by omega) hjM
            omega, rfl⟩))
      clear HP e1
      go_wp2_with fail
      refine bodyPost_ret (v := spV 0 0 0 21) ?_ ?_ ?_
      · exact results_row_tmp Try.results23 _ _ w.heap.size 56 _ (0, 0) _ rfl HRr.out Try.underlying56 rfl (by kernel_rfl)
      · rfl
      · exact ⟨⟨_, rfl, HFi.out⟩, HFr.out⟩
    | true =>
      obtain ⟨-, hq4⟩ := HQ.out
      obtain ⟨hqM, hqi⟩ := hq4.1 rfl
      dsimp only at hqi
      have HFi : Box (SpP (ofS G m) n P at' (spV p k (X q) 0)) := boxed (HFin2.out _ (Or.inl ⟨q, by have := HM.out; omega, by omega, rfl⟩))
      obtain ⟨-, q1⟩ := HS3.out.get q hqM
      simp only [Nat.zero_add] at q1
      have hqMi : (q : Int) < (M : Int) := by omega
      have HP := put3_all e1 (.int .i64 (p : Nat)) (.int .i64 (k : Nat)) (.int .i64 (X q))
      have HFr := boxed (HB3.out.trans (grown_below HP.2.1 (Nat.le_refl _) HB3.out.size))
      have HRr := boxed HP.2.2
      clear HP e1 hq4 hqi
      generalize X q = Xq at *
      go_wp2_with fail
      refine bodyPost_ret (v := spV p k Xq 0) ?_ ?_ ?_
      · exact results_row_tmp Try.results23 _ _ w.heap.size 56 _ (0, 0) _ rfl HRr.out Try.underlying56 rfl (by kernel_rfl)
      · rfl
      · exact ⟨⟨_, rfl, HFi.out⟩, HFr.out⟩
theorem guardSpot : Try.prog.eqGuardType Try.prog.depth 56 = false := by kernel_rfl
theorem eqSpot (a b c d e f : Int) (w : World) : (binOp .eql 56 (.agg #[.int .i64 a, .int .i64 b, .int .i64 c]) (.agg #[.int .i64 d, .int .i64 e, .int .i64 f])).run Try.prog w = .ok (.bool (a == d && (b == e && c == f))) w := by
  have u3 := Try.underlying3
  have hS : Try.prog.underlying 56 = some (.struct (Try.prog.fieldsOf 56)) := by kernel_rfl
  have hp : Try.prog.stoodInHeld 56 = false := by kernel_rfl
  rw [run_eql_struct, show (10000 : Nat) = 9999 + 1 from rfl, run_equalIn_agg w 9999 56 _ _ hS hp]
  simp only [Program.fieldsOf, Try.underlying56]
  go_simp
  by_cases h1 : a = d <;> by_cases h2 : b = e <;> by_cases h3 : c = f <;> simp [h1, h2, h3]
/-- What is told of a byte's place, number by number. -/
def SpF (G : Int → Sty) (P : Nat → Pgv) (r : Option (Nat × Nat × Nat)) (a b x er : Int) : Prop := (r = none → a = 0 ∧ b = 0 ∧ x = 0 ∧ er = 30) ∧ ∀ p k i, r = some (p, k, i) → ∃ N, LnP ((P p).F k) N ∧ ((∃ j, j ≤ N ∧ it ((P p).F k).tx j = i ∧ a = (p : Int) ∧ b = (k : Int) ∧ x = xs G ((P p).F k).L ((P p).F k).Y ((P p).F k).rn ((P p).F k).num ((P p).F k).den ((P p).F k).tx N j ∧ er = 0) ∨ ((∀ j, j ≤ N → it ((P p).F k).tx j ≠ i) ∧ a = 0 ∧ b = 0 ∧ x = 0 ∧ er = 21))
theorem sp_open {G K : Int → Sty} (hL : ∀ a, Like (K a) (G a)) {n : Nat} {P : Nat → Pgv} {a' : Int} {v : Value} (h : SpP G n P a' v) : ∃ r a b x er, v = spV a b x er ∧ LnR n P a' r ∧ SpF K P r a b x er := by
  obtain ⟨r, hr, hm⟩ := h
  match r, hr, hm with
  | none, hr, hm => exact ⟨none, 0, 0, 0, 30, hm, hr, ⟨fun _ => ⟨rfl, rfl, rfl, rfl⟩, fun p k i e => (by cases e)⟩⟩
  | some (p, k, i), hr, hm =>
    obtain ⟨N, hN, ⟨j, h1, h2, h3⟩ | ⟨h1, h2⟩⟩ := hm
    · refine ⟨_, _, _, _, _, h3, hr, ⟨fun e => (by cases e), fun p' k' i' e => ?_⟩⟩
      injection e with e
      injection e with e1 e
      injection e with e2 e3
      subst e1; subst e2; subst e3
      exact ⟨N, hN, Or.inl ⟨j, h1, h2, rfl, rfl, (xs_like hL _ _ _ _ _ _ _ _), rfl⟩⟩
    · refine ⟨_, _, _, _, _, h2, hr, ⟨fun e => (by cases e), fun p' k' i' e => ?_⟩⟩
      injection e with e
      injection e with e1 e
      injection e with e2 e3
      subst e1; subst e2; subst e3
      exact ⟨N, hN, Or.inr ⟨h1, rfl, rfl, rfl, rfl⟩⟩
end Go.Proofs.Ytcdcpmcjlchfgaa
