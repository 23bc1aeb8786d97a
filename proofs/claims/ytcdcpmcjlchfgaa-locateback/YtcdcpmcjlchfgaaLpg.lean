/-
  What the document's Last and Line answer (by mklpg.py).
-/
import Derived.Test.YtcdcpmcjlchfgaaLpe
namespace Go.Proofs.Ytcdcpmcjlchfgaa
open Go.RowKit
set_option linter.unusedSimpArgs false
set_option linter.unusedVariables false

/-- Three numbers in a block. -/
theorem cells3 {W : World} {rb : Nat} {v0 v1 v2 : Value} {t : TypeId} (e : W.heap[rb]? = some (.cells #[v0, v1, v2] t (0, 0))) : (W.cell? ⟨rb, 0, none⟩ = some v0 ∧ W.cell? ⟨rb, 1, none⟩ = some v1 ∧ W.cell? ⟨rb, 2, none⟩ = some v2) ∧ W.frozen? ⟨rb, 0, none⟩ = false ∧ W.frozen? ⟨rb, 1, none⟩ = false ∧ W.frozen? ⟨rb, 2, none⟩ = false := by
  refine ⟨⟨?_, ?_, ?_⟩, ?_, ?_, ?_⟩
  · simp [World.cell?, e]
  · simp [World.cell?, e]
  · simp [World.cell?, e]
  · unfold World.frozen?; rw [e]; simp
  · unfold World.frozen?; rw [e]; simp
  · unfold World.frozen?; rw [e]; simp
theorem put3_all {w : World} {rb : Nat} {x0 x1 x2 : Value} {t : TypeId} (h : w.heap[rb]? = some (.cells #[x0, x1, x2] t (0, 0))) (v0 v1 v2 : Value) :
    ((((w.setCell ⟨rb, 0, none⟩ v0).setCell ⟨rb, 1, none⟩ v1).setCell ⟨rb, 2, none⟩ v2).cell? ⟨rb, 0, none⟩ = some v0 ∧ (((w.setCell ⟨rb, 0, none⟩ v0).setCell ⟨rb, 1, none⟩ v1).setCell ⟨rb, 2, none⟩ v2).cell? ⟨rb, 1, none⟩ = some v1 ∧ (((w.setCell ⟨rb, 0, none⟩ v0).setCell ⟨rb, 1, none⟩ v1).setCell ⟨rb, 2, none⟩ v2).cell? ⟨rb, 2, none⟩ = some v2) ∧
    w.grownBy (((w.setCell ⟨rb, 0, none⟩ v0).setCell ⟨rb, 1, none⟩ v1).setCell ⟨rb, 2, none⟩ v2) (some rb) ∧ (((w.setCell ⟨rb, 0, none⟩ v0).setCell ⟨rb, 1, none⟩ v1).setCell ⟨rb, 2, none⟩ v2).heap[rb]? = some (.cells #[v0, v1, v2] t (0, 0)) := by
  have h3 : (((w.setCell ⟨rb, 0, none⟩ v0).setCell ⟨rb, 1, none⟩ v1).setCell ⟨rb, 2, none⟩ v2).heap[rb]? = some (.cells #[v0, v1, v2] t (0, 0)) := by
    simp [World.setCell, Array.getElem?_modify, h]
  exact ⟨(cells3 h3).1, grown_trans (grown_trans (grown_set _ _ _ _) (grown_set _ _ _ _)) (grown_set _ _ _ _), h3⟩
theorem results_row_tmp {P : Program} {fn : Func} {a p : Tmp} {ty : TypeId} (h : fn.results = #[.cell p ty, .tmp a]) (tmps : Array Value) (w : World) (g : Nat) (t : TypeId) (cs : Array Value) (fr : Nat × Nat) (d : TypeDesc)
    (hp : tmps.getD p undef = .pointer (some ⟨g, 0, none⟩)) (hg : w.heap[g]? = some (.cells cs t fr))
    (hu : P.underlying ty = some d) (hd : (match d with | .struct _ | .array _ _ => true | _ => false) = true) (hi : (P.info? ty).map (·.size) = some cs.size) :
    (results fn tmps).run P w = .ok (.tuple #[.agg cs, tmps.getD a undef]) w := by
  simp only [results, h]
  simp [Sem.run_bind, Result.andThen]
  rw [show tmps[p]?.getD undef = .pointer (some ⟨g, 0, none⟩) by simpa using hp]
  simp [asAddr, run_loadVar_row w g t ty cs fr d hg hu hd hi]
def trV (a b c : Nat) (s : Bool) : Value := .tuple #[.agg #[.int .i64 (a : Nat), .int .i64 (b : Nat), .int .i64 (c : Nat)], .bool s]
def lnW : Option (Nat × Nat × Nat) → Value
  | some (p, k, i) => trV p k i true
  | none => trV 0 0 0 false
/-- A three in a block of its own, and what comes of it. -/
theorem three_new (w : World) : ∃ w0, w.alloc (.cells #[.int .i64 0, .int .i64 0, .int .i64 0] 29) = w0 ∧ Below w.heap.size w w0 ∧ ∀ W, Below w0.heap.size w0 W → W.heap[w.heap.size]? = some (.cells #[.int .i64 0, .int .i64 0, .int .i64 0] 29 (0, 0)) :=
  ⟨_, rfl, (Below.refl _ _).alloc (Nat.le_refl _) _, fun W hb => by rw [hb.block w.heap.size (by simp)]; exact heap_alloc_new w _⟩
/-- What Last answers. -/
def LastP (n : Nat) (P : Nat → Pgv) (e : Ending) : Prop := ∃ a b c s, e = .returned (trV a b c s) ∧ ((s = true ∧ LstL n P a b ∧ c = ((P a).F b).tx.size) ∨ (s = false ∧ a = 0 ∧ b = 0 ∧ c = 0 ∧ ∀ p, p < n → (P p).ln = 0))
set_option maxRecDepth 100000 in
set_option maxHeartbeats 8000000 in
theorem last_any (S : Nat → Prop) (ao : Option Addr) (n cap : Nat) (P : Nat → Pgv) (w : World) (h : PgsR S w ao n P) (hn : n ≤ maxLen) :
    Calls Try.prog 27 #[.slice ao n cap] w fun e w' => LastP n P e ∧ Below w.heap.size w w' := by
  unfold maxLen at hn
  obtain ⟨w0, hw0, hB0, hN⟩ := three_new w
  have H := boxed (h.below hB0)
  have HW0 := boxed hw0
  have HB0 := boxed hB0
  have HN := boxed (hN w0 (Below.refl _ _))
  clear h hw0 hN hB0
  go_enter Try.func27, Try.ntmps27
  go_upto_region 1 with (fail)
  rw [HW0.out]
  go_wp2_with fail
  go_loopw [4] (fun kv wr => ∃ k : Int, (-1 ≤ k ∧ k < (n : Int)) ∧ kv = .int .i64 k ∧ Box (∀ q : Nat, k < (q : Int) → q < n → (P q).ln = 0) ∧ wr = w0) (fun kv _ => (intOf kv + 1).toNat)
  case atStart => exact ⟨(n : Int) - 1, by omega, (by first | rfl | go_num), boxed (fun q h1 h2 => by omega), rfl⟩
  case round =>
    obtain ⟨k, ⟨hk1, hk2⟩, rfl, HK, rfl⟩ := hrel
    by_cases hp : 0 ≤ k
    · obtain ⟨p, rfl⟩ : ∃ m : Nat, k = (m : Int) := ⟨k.toNat, by omega⟩
      have hpn : p < n := by omega
      obtain ⟨hok, hls, b, off, rfl, -, c0⟩ := H.out p hpn
      have t0 : decide (0 ≤ (p : Int)) = true := decide_eq_true hp
      have hml := hok.ln
      simp only [maxLen] at hml
      have HK2 : Box ((P p).ln = 0 → ∀ q : Nat, (p : Int) - 1 < (q : Int) → q < n → (P q).ln = 0) := boxed (fun e q h1 h2 => by
        by_cases c : q = p
        · subst c; exact e
        · exact HK.out q (by omega) h2)
      by_cases cl : 0 < (P p).ln
      · have tl : decide (0 < ((P p).ln : Int)) = true := decide_eq_true (by omega)
        have tl2 : decide (0 < (P p).ln) = true := decide_eq_true (by omega)
        obtain ⟨m, hm⟩ : ∃ m, (P p).ln = m + 1 := ⟨(P p).ln - 1, by omega⟩
        obtain ⟨b', off', hla, -⟩ := hls.form cl
        rw [hla] at hls c0
        obtain ⟨-, c1, -⟩ := hls.get m (by omega)
        have HR : Box (LstL n P p m) := boxed ⟨hpn, hm.symm, fun q h1 h2 => HK.out q (by omega) h2⟩
        obtain ⟨⟨d0, d1, d2⟩, z0, z1, z2⟩ := cells3 HN.out
        obtain ⟨L, hL⟩ : ∃ L, ((P p).F m).tx.size = L := ⟨_, rfl⟩
        have HFin : Box (LastP n P (.returned (trV p m L true))) := boxed ⟨p, m, L, true, rfl, Or.inl ⟨rfl, HR.out, hL.symm⟩⟩
        have HP := put3_all HN.out (.int .i64 (p : Nat)) (.int .i64 (m : Nat)) (.int .i64 (L : Nat))
        have HF := boxed (HB0.out.trans (grown_below HP.2.1 (Nat.le_refl _) HB0.out.size))
        have HRr := boxed HP.2.2
        have e1 : ((P p).ln : Int) - 1 = (m : Int) := by omega
        have hml1 : m < (P p).ln := by omega
        have hml2 : (m : Int) < ((P p).ln : Int) := by omega
        clear HP hls hok hla hm cl HK2
        generalize (P p).ln = ln at *
        generalize ((P p).F m).tx = tx at *
        generalize (P p).lc = lc at *
        go_wp2_with fail
        refine bodyPost_ret (v := trV p m L true) ?_ ?_ ?_
        · exact results_row_tmp Try.results27 _ _ w.heap.size 29 _ (0, 0) _ rfl HRr.out Try.underlying29 rfl (by kernel_rfl)
        · rfl
        · exact ⟨HFin.out, HF.out⟩
      · have tl : decide (0 < ((P p).ln : Int)) = false := decide_eq_false (by omega)
        have tl2 : decide (0 < (P p).ln) = false := decide_eq_false (by omega)
        have HK3 := boxed (HK2.out (by omega))
        clear hls hok cl HK2 HK
        generalize (P p).ln = ln at *
        generalize (P p).lc = lc at *
        generalize (P p).la = la at *
        go_wp2_with fail
        go_roundw
        case rel => exact ⟨(p : Int) - 1, by omega, rfl, HK3, (by first | rfl | trivial)⟩
        case measure => simp [intOf] <;> omega
    · have t0 : decide (0 ≤ k) = false := decide_eq_false hp
      obtain rfl : k = -1 := by omega
      have HFin : Box (LastP n P (.returned (trV 0 0 0 false))) := boxed ⟨0, 0, 0, false, rfl, Or.inr ⟨rfl, rfl, rfl, rfl, fun p hp => HK.out p (by omega) hp⟩⟩
      obtain ⟨⟨d0, d1, d2⟩, z0, z1, z2⟩ := cells3 HN.out
      have HP := put3_all HN.out (.int .i64 0) (.int .i64 0) (.int .i64 0)
      have HF := boxed (HB0.out.trans (grown_below HP.2.1 (Nat.le_refl _) HB0.out.size))
      have HRr := boxed HP.2.2
      clear HP HK
      go_wp2_with fail
      refine bodyPost_ret (v := trV 0 0 0 false) ?_ ?_ ?_
      · exact results_row_tmp Try.results27 _ _ w.heap.size 29 _ (0, 0) _ rfl HRr.out Try.underlying29 rfl (by kernel_rfl)
      · rfl
      · exact ⟨HFin.out, HF.out⟩
set_option maxRecDepth 100000 in
set_option maxHeartbeats 8000000 in
theorem refline_any (S : Nat → Prop) (ao : Option Addr) (n cap : Nat) (P : Nat → Pgv) (at' : Int) (w : World) (h : PgsR S w ao n P) (hn : n ≤ maxLen) (hz : psz P n ≤ 1000000) :
    Calls Try.prog 12 #[.slice ao n cap, .int .i64 at'] w fun e w' => (∃ r, e = .returned (lnW r) ∧ LnR n P at' r) ∧ Below w.heap.size w w' := by
  obtain ⟨w0, hw0, hB0, hN⟩ := three_new w
  have hby := rbytes_any S ao n cap P w0 (h.below hB0) hn hz
  have HLA := boxed (fun W hb => last_any S ao n cap P W (h.below (below_step hB0 (Nat.le_refl _) hb)) hn)
  have HW0 := boxed hw0
  have HB0 := boxed hB0
  have HN := boxed hN
  clear h hw0 hN hB0
  obtain ⟨Z, hZ⟩ : ∃ Z, psz P n = Z := ⟨_, rfl⟩
  have HZ := boxed hZ
  rw [hZ] at hz hby
  clear hZ
  have hun : undef = Value.tuple #[] := rfl
  go_enter Try.func12, Try.ntmps12
  go_upto_region 1 with (fail)
  rw [HW0.out]
  go_wp2_with fail
  refine hby.mono ?_
  rintro e w1 ⟨⟨ro, rc, l, rfl, hl, hall, hown⟩, hb1⟩
  have HN1 := boxed (HN.out _ hb1)
  have HB1 := boxed (below_step HB0.out (Nat.le_refl _) hb1)
  have HL1 := boxed (HLA.out _ hb1)
  have HLB : Box (∀ W, Below w1.heap.size w1 W → W.heap[w.heap.size]? = some (.cells #[.int .i64 0, .int .i64 0, .int .i64 0] 29 (0, 0))) := boxed (fun W hb => HN.out W (below_step hb1 (Nat.le_refl _) hb))
  have HLL := boxed hl
  have HAL := boxed hall
  have HOW := boxed hown
  clear hl hall hown hb1 hby HLA
  obtain ⟨⟨d0, d1, d2⟩, z0, z1, z2⟩ := cells3 HN1.out
  by_cases cn : 0 ≤ at' ∧ at' < (Z : Int)
  · obtain ⟨a, rfl⟩ : ∃ a : Nat, at' = (a : Int) := ⟨at'.toNat, by omega⟩
    have t0 : decide (0 ≤ (a : Int)) = true := decide_eq_true cn.1
    have t1 : decide ((a : Int) < (Z : Int)) = true := decide_eq_true cn.2
    have t2 : decide (a < Z) = true := decide_eq_true (by omega)
    have haz : a < Z := by omega
    have haz2 : (a : Int) < (Z : Int) := cn.2
    obtain ⟨⟨p, k, i⟩, hx⟩ : ∃ x, l[a]? = some x := ⟨_, List.getElem?_eq_getElem (by rw [HLL.out]; exact haz)⟩
    obtain ⟨q0, q1, q2⟩ := p3c_get l a _ hx
    have HR : Box (LnR n P (a : Int) (some (p, k, i))) := boxed (lnr_in (HAL.out a p k i hx))
    rcases ownsRow_forms HOW.out with ⟨_, h2⟩ | ⟨g, cp, e⟩
    · omega
    injection e with e1 e2 e3
    subst e1
    have r0 := HOW.out.cellAt (a * 3) (by omega)
    have r1 := HOW.out.cellAt (a * 3 + 1) (by omega)
    have r2 := HOW.out.cellAt (a * 3 + 2) (by omega)
    rw [q0] at r0
    rw [q1] at r1
    rw [q2] at r2
    simp only at r0 r1 r2
    have HP := put3_all HN1.out (.int .i64 (p : Nat)) (.int .i64 (k : Nat)) (.int .i64 (i : Nat))
    have HF := boxed (HB1.out.trans (grown_below HP.2.1 (Nat.le_refl _) HB1.out.size))
    have HRr := boxed HP.2.2
    clear HP hx q0 q1 q2 cn e3
    go_wp2_with fail
    refine bodyPost_ret (v := trV p k i true) ?_ ?_ ?_
    · exact results_row_tmp Try.results12 _ _ w.heap.size 29 _ (0, 0) _ rfl HRr.out Try.underlying29 rfl (by kernel_rfl)
    · rfl
    · exact ⟨⟨some (p, k, i), rfl, HR.out⟩, HF.out⟩
  · by_cases ce : at' = (Z : Int)
    · subst ce
      have t0 : decide (0 ≤ (Z : Int)) = true := decide_eq_true (by omega)
      have t1 : decide ((Z : Int) < (Z : Int)) = false := decide_eq_false (by omega)
      have hla := HL1.out
      clear cn
      go_wp2_with fail
      refine hla.mono ?_
      rintro e w2 ⟨⟨a, b, c, s, rfl, hor⟩, hb2⟩
      have HR : Box (∃ r, LnR n P (Z : Int) r ∧ trV a b c s = lnW r) := boxed (by
        rcases hor with ⟨rfl, h1, h2⟩ | ⟨rfl, rfl, rfl, rfl, h1⟩
        · exact ⟨some (a, b, c), Or.inr ⟨by rw [HZ.out], h1, h2⟩, rfl⟩
        · exact ⟨none, Or.inr (Or.inr ⟨by rw [HZ.out], h1⟩), rfl⟩)
      have e2 := HLB.out _ hb2
      obtain ⟨⟨d0, d1, d2⟩, z0, z1, z2⟩ := cells3 e2
      have HB2 := below_step HB1.out (Nat.le_refl _) hb2
      have HP := put3_all e2 (.int .i64 (a : Nat)) (.int .i64 (b : Nat)) (.int .i64 (c : Nat))
      have HF := boxed (HB2.trans (grown_below HP.2.1 (Nat.le_refl _) HB2.size))
      have HRr := boxed HP.2.2
      unfold trV
      clear HP hor e2 HB2 hb2 hla
      go_wp2_with fail
      refine bodyPost_ret (v := trV a b c s) ?_ ?_ ?_
      · exact results_row_tmp Try.results12 _ _ w.heap.size 29 _ (0, 0) _ rfl HRr.out Try.underlying29 rfl (by kernel_rfl)
      · rfl
      · obtain ⟨r, h1, h2⟩ := HR.out
        exact ⟨⟨r, by rw [h2], h1⟩, HF.out⟩
    · have te : (at' == (Z : Int)) = false := by simpa using ce
      have HR : Box (LnR n P at' none) := boxed (by
        by_cases c : at' < 0
        · exact Or.inl c
        · exact Or.inr (Or.inl (by rw [HZ.out]; omega)))
      have HP := put3_all HN1.out (.int .i64 0) (.int .i64 0) (.int .i64 0)
      have HF := boxed (HB1.out.trans (grown_below HP.2.1 (Nat.le_refl _) HB1.out.size))
      have HRr := boxed HP.2.2
      by_cases c0 : 0 ≤ at'
      · have t0 : decide (0 ≤ at') = true := decide_eq_true c0
        have t1 : decide (at' < (Z : Int)) = false := decide_eq_false (by omega)
        clear HP cn ce c0
        go_wp2_with fail
        refine bodyPost_ret (v := trV 0 0 0 false) ?_ ?_ ?_
        · exact results_row_tmp Try.results12 _ _ w.heap.size 29 _ (0, 0) _ rfl HRr.out Try.underlying29 rfl (by kernel_rfl)
        · rfl
        · exact ⟨⟨none, rfl, HR.out⟩, HF.out⟩
      · have t0 : decide (0 ≤ at') = false := decide_eq_false c0
        clear HP cn ce c0
        go_wp2_with fail
        refine bodyPost_ret (v := trV 0 0 0 false) ?_ ?_ ?_
        · exact results_row_tmp Try.results12 _ _ w.heap.size 29 _ (0, 0) _ rfl HRr.out Try.underlying29 rfl (by kernel_rfl)
        · rfl
        · exact ⟨⟨none, rfl, HR.out⟩, HF.out⟩
end Go.Proofs.Ytcdcpmcjlchfgaa
