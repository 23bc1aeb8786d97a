/-
  The pages that are built: what build answers.
-/
import Derived.Test.YtdpjaafdpgkclaaTk
namespace Go.Proofs.Ytdpjaafdpgkclaa
open Go.RowKit
set_option linter.unusedSimpArgs false
set_option linter.unusedVariables false

/-- Where i pages from page p on begin. -/
def bls (D : Dc) (p i : Nat) : List Nat := (List.range i).map fun k => D.it (p + k)
theorem bls_len (D : Dc) (p i : Nat) : (bls D p i).length = i := by simp [bls]
theorem bls_snoc (D : Dc) (p i : Nat) : bls D p (i + 1) = bls D p i ++ [D.it (p + i)] := by simp [bls, List.range_succ]
/-- What build comes to: bl pages are built, and these known ones follow. -/
def BldP (D : Dc) (K : List Nat) (p bl : Nat) (L2 : List Nat) : Prop :=
  (∀ i, i < bl → D.it (p + i) < D.n ∧ ∀ j, j < K.length → K.getD j 0 ≠ D.it (p + i)) ∧
  ((D.it (p + bl) = D.n ∧ L2 = []) ∨ (D.it (p + bl) < D.n ∧ ∃ q, q < K.length ∧ K.getD q 0 = D.it (p + bl) ∧ L2 = K.drop q))
set_option maxRecDepth 100000 in
set_option maxHeartbeats 4000000 in
theorem build_any (D : Dc) (g : Stg) (hD : DcOk D g) (S : Nat → Prop) (p : Nat) (ao : Option Addr) (cap : Nat) (w : World) (h : SltsAt S w ao D.n D.F) (c0 : w.cell? ⟨p, 0, none⟩ = some (.slice ao D.n cap)) (c2 : w.cell? ⟨p, 2, none⟩ = some (.int .i64 D.H)) (c3 : w.cell? ⟨p, 3, none⟩ = some (.int .i64 g.t)) (c4 : w.cell? ⟨p, 4, none⟩ = some (.int .i64 g.l)) (c5 : w.cell? ⟨p, 5, none⟩ = some (.int .i64 g.a)) (c6 : w.cell? ⟨p, 6, none⟩ = some (.int .i64 g.d)) (c7 : w.cell? ⟨p, 7, none⟩ = some (.int .i64 g.z)) (c8 : w.cell? ⟨p, 8, none⟩ = some (.int .i64 g.o)) (c9 : w.cell? ⟨p, 9, none⟩ = some (.int .i64 g.i))
    (B ko N kc : Nat) (ka : Option Addr) (K : List Nat) (hK : w.ownsRow B 3 1 (.slice ka N kc) N (ncs K)) (hKl : K.length = N) (hN : N ≤ 1000) (hM : ∀ j k, j ≤ k → k < K.length → K.getD j 0 ≤ K.getD k 0) (pg : Nat) :
    Calls Try.prog 40 #[.pointer (some ⟨p, 0, none⟩), .int .i64 (D.it pg : Nat), .slice ka N kc] w fun e w' => ∃ bl a1 k1 a2 n2 k2 L2, e = .returned (.tuple #[.slice a1 bl k1, .slice a2 n2 k2]) ∧ w'.ownsRow w.heap.size 3 1 (.slice a1 bl k1) bl (ncs (bls D pg bl)) ∧ L2.length = n2 ∧ NsAt (fun b => B ≤ b ∨ w.heap.size ≤ b) w' a2 L2 ∧ (a2 = none → k2 = 0) ∧ BldP D K pg bl L2 ∧ Below w.heap.size w w' := by
  obtain ⟨i0, hi, hz0, hz1, hz2⟩ := info_parts info_int12
  have hn := hD.n
  have HC : Box (∀ W, Below w.heap.size w W → W.cell? ⟨p, 0, none⟩ = some (.slice ao D.n cap) ∧ W.cell? ⟨p, 2, none⟩ = some (.int .i64 D.H) ∧ W.cell? ⟨p, 3, none⟩ = some (.int .i64 g.t) ∧ W.cell? ⟨p, 4, none⟩ = some (.int .i64 g.l) ∧ W.cell? ⟨p, 5, none⟩ = some (.int .i64 g.a) ∧ W.cell? ⟨p, 6, none⟩ = some (.int .i64 g.d) ∧ W.cell? ⟨p, 7, none⟩ = some (.int .i64 g.z) ∧ W.cell? ⟨p, 8, none⟩ = some (.int .i64 g.o) ∧ W.cell? ⟨p, 9, none⟩ = some (.int .i64 g.i)) := boxed (fun W hb => ⟨hold hb c0, hold hb c2, hold hb c3, hold hb c4, hold hb c5, hold hb c6, hold hb c7, hold hb c8, hold hb c9⟩)
  have HN := boxed (fun a W (hb : Below w.heap.size w W) (ha : a ≤ D.n) => next_any D g hD S ao cap a W (h.below hb) ha)
  have hroomK := own_room hK
  have HKs := boxed (fun W (hb : Below w.heap.size w W) => own_nat (owns_below hK hb) hKl)
  have HKl := boxed hKl
  have HM := boxed hM
  have HBs := boxed (fun x W (hb : Below w.heap.size w W) => bins_any (fun b => B ≤ b) ka N kc K hKl x W (own_nat (owns_below hK hb) hKl).ns (by omega) hM)
  clear h c0 c2 c3 c4 c5 c6 c7 c8 c9 hK hKl hM hD
  unfold Stg.val at *
  go_enter Try.func40, Try.ntmps40
  go_wp2_with fail
  go_loopw [1, 6] (fun lv bv wr => ∃ i : Nat, Box (∀ k, k < i → D.it (pg + k) < D.n ∧ ∀ j, j < K.length → K.getD j 0 ≠ D.it (pg + k)) ∧ lv = .int .i64 (D.it (pg + i) : Nat) ∧ i ≤ D.it (pg + i) ∧ Box (wr.ownsRow w.heap.size 3 1 bv i (ncs (bls D pg i))) ∧ Box (Below w.heap.size w wr)) (fun lv _ _ => D.n - (intOf lv).toNat)
  case atStart => exact ⟨0, boxed (fun k hk => by omega), rfl, Nat.zero_le _, boxed (World.ownsRow_nil _ _ _ _), boxed (Below.refl _ _)⟩
  case round =>
    obtain ⟨i, HP, rfl, hil, HO, HB⟩ := hrel
    have hle := D.it_le (pg + i)
    obtain ⟨b0, -⟩ := HC.out wr HB.out
    by_cases hlt : D.it (pg + i) < D.n
    · have HJ := boxed (D.nx_gt (D.it (pg + i)) hlt)
      have HE := boxed (show D.it (pg + (i + 1)) = D.nx (D.it (pg + i)) from rfl)
      have HI := boxed (bls_snoc D pg i)
      have hbs := HBs.out (D.it (pg + i)) wr HB.out
      obtain ⟨x, hx⟩ : ∃ x, D.it (pg + i) = x := ⟨_, rfl⟩
      have HX := boxed hx
      rw [hx] at hlt hle HJ HE HI hbs hil ⊢
      clear hx
      have hx1 : (x : Int) < (D.n : Int) := by omega
      go_wp2_with fail
      refine hbs.mono ?_
      rintro e w1 ⟨q, rfl, hq, hb1⟩
      have HQ := boxed hq
      have HB1 := boxed (below_step HB.out (Nat.le_refl _) hb1)
      have HO1 := boxed (owns_below HO.out hb1)
      clear hq hb1 hbs HO b0
      by_cases hfd : q < N ∧ K.getD q 0 = x
      · have tf : decide (q < N ∧ K.getD q 0 = x) = true := decide_eq_true hfd
        obtain ⟨kb, rfl, -, -⟩ := (HKs.out w1 HB1.out).form (by rw [HKl.out]; omega)
        have hq1 : (q : Int) ≤ (N : Int) := by omega
        have hq0 : (0 : Int) ≤ (q : Int) := by omega
        have hq2 : ¬ (kc = q) := by omega
        have hq3 : q ≤ N := by omega
        obtain ⟨a1, k1, rfl⟩ := own_shape HO1.out
        have HR : Box (BldP D K pg i (K.drop q) ∧ (K.drop q).length = N - q ∧ ∀ W, Below w1.heap.size w1 W → NsAt (fun b => B ≤ b ∨ w.heap.size ≤ b) W (some ⟨kb, q, none⟩) (K.drop q)) := boxed ⟨⟨HP.out, .inr ⟨by rw [HX.out]; exact hlt, q, by rw [HKl.out]; exact hfd.1, by rw [HX.out]; exact hfd.2, rfl⟩⟩, by rw [List.length_drop, HKl.out], fun W hb => by
          have h1 := (HKs.out W (below_step HB1.out (Nat.le_refl _) hb)).ns
          intro j hj
          rw [List.length_drop, HKl.out] at hj
          obtain ⟨b', off', e, hs, cc⟩ := h1 (q + j) (by rw [HKl.out]; omega)
          obtain ⟨b'', e2, -⟩ := (HKs.out W (below_step HB1.out (Nat.le_refl _) hb)) 0 (by rw [HKl.out]; omega)
          injection e with e; injection e with e1 e2 e3
          subst e1; subst e2
          refine ⟨kb, q, rfl, .inl hs, ?_⟩
          rw [Nat.zero_add] at cc
          rw [cc]
          simp [List.getD, List.getElem?_drop]⟩
        rw [tf]
        clear hfd tf HJ HE HI
        go_wp2_with fail
        go_quiet (fail)
        have HB2 := boxed (below_step HB1.out (Nat.le_refl _) (bel_drewN _ w1 nq))
        have HO2 := boxed (owns_below HO1.out (bel_drewN _ w1 nq))
        have HN2 := boxed (HR.out.2.2 _ (bel_drewN _ w1 nq))
        go_wp2_with fail
        go_ret2
        exact ⟨i, a1, k1, _, _, _, K.drop q, rfl, HO2.out, HR.out.2.1, HN2.out, (fun e => nomatch e), HR.out.1, HB2.out⟩
      · have tf : decide (q < N ∧ K.getD q 0 = x) = false := decide_eq_false hfd
        have HP2 : Box (∀ k, k < i + 1 → D.it (pg + k) < D.n ∧ ∀ j, j < K.length → K.getD j 0 ≠ D.it (pg + k)) := boxed (fun k hk => by
          by_cases c : k = i
          · subst c
            rw [HX.out]
            refine ⟨hlt, fun j hj => ?_⟩
            obtain ⟨q1, q2, q3⟩ := HQ.out
            by_cases l : j < q
            · have := q2 j l; omega
            · have h4 := q3 q (Nat.le_refl _) (by omega)
              have h5 := HM.out q j (by omega) hj
              have h6 : K.getD q 0 ≠ x := fun e => hfd ⟨by rw [← HKl.out]; omega, e⟩
              omega
          · exact HP.out k (by omega))
        rw [tf]
        have hown := HO1.out
        have hzr := HB1.out.size
        clear tf hfd HP
        go_wp2_with (first | (at_builtin; refine wpList_append_own _ rfl _ _ 39 rfl w.heap.size 3 i0 _ 1 8 Try.underlying39 hi hz0 hz1 hz2 rfl (by decide) _ _ _ rfl (hown.alloc _) ⟨w1.heap.size, 0, none⟩ 1 1 [.int .i64 (x : Nat)] rfl rfl ?d1 ?d2 ?d3 ?d4 ?d5 ?_))
        case d1 =>
          intro j u hj
          match j, hj with
          | 0, hj => simp at hj; subst hj; simp [Addr.add]
        case d2 => intro u hu; simp at hu; subst hu; rfl
        case d3 => unfold maxLen; omega
        case d4 => omega
        case d5 => simp; omega
        intro v' w6 hown6 hgrow6 _
        have HO6 : Box (w6.ownsRow w.heap.size 3 1 v' (i + 1) (ncs (bls D pg (i + 1)))) := boxed (by rw [HI.out, ncs_app]; exact hown6)
        have HG6 := boxed (HB1.out.trans (grown_any hown hzr hgrow6))
        clear hown6 hgrow6 hown
        obtain ⟨c0, c2, c3, c4, c5, c6, c7, c8, c9⟩ := HC.out w6 HG6.out
        have v0 := cell_regrown c0
        have v2 := cell_regrown c2
        have v3 := cell_regrown c3
        have v4 := cell_regrown c4
        have v5 := cell_regrown c5
        have v6 := cell_regrown c6
        have v7 := cell_regrown c7
        have v8 := cell_regrown c8
        have v9 := cell_regrown c9
        have CM : Box (∀ d os, Calls Try.prog 33 #[.slice ao D.n cap, .int .i64 (x : Nat), .int .i64 D.H, .agg #[.int .i64 g.t, .int .i64 g.l, .int .i64 g.a, .int .i64 g.d, .int .i64 g.z, .int .i64 g.o, .int .i64 g.i]] (Go.Sort.grow (redrawn w6 d) os) fun e w'' => e = .returned (.int .i64 (D.nx x : Nat)) ∧ ∃ p : Regrown, w'' = Go.Sort.grow (redrawn w6 p.d) p.os) := boxed (fun d os => Calls.regrown_of (HN.out x _ (below_step HG6.out (Nat.le_refl _) (below_regrown w6 d os)) (by omega)))
        have HBn : Box (∀ d os, Below w.heap.size w (Go.Sort.grow (redrawn w6 d) os)) := boxed (fun d os => below_step HG6.out (Nat.le_refl _) (below_regrown w6 d os))
        have HOn : Box (∀ d os, (Go.Sort.grow (redrawn w6 d) os).ownsRow w.heap.size 3 1 v' (i + 1) (ncs (bls D pg (i + 1)))) := boxed (fun d os => owns_below HO6.out (below_regrown w6 d os))
        clear c0 c2 c3 c4 c5 c6 c7 c8 c9
        go_wp2_with fail
        refine wp_region_quiet_below (by kernel_rfl) (by kernel_rfl) ?_
        repeat (go_big_quiet_step (first | (go_at_call 33; exact CM.out _ _)))
        refine wpQuiet_nil ?_
        intro _ hw'
        obtain ⟨⟨dq, osq⟩, hw''⟩ := hw'
        subst hw''
        have HB4 := boxed (HBn.out dq osq)
        have HO4 := boxed (HOn.out dq osq)
        clear HBn HOn CM v0 v2 v3 v4 v5 v6 v7 v8 v9
        generalize Go.Sort.grow (redrawn w6 dq) osq = w4 at *
        go_wp2_with fail
        go_roundw
        case rel => exact ⟨i + 1, HP2, by rw [HE.out], by rw [HE.out]; have := HJ.out; omega, HO4, HB4⟩
        case measure => have := HJ.out; simp [intOf]; omega
    · have e : D.it (pg + i) = D.n := by omega
      obtain ⟨a1, k1, rfl⟩ := own_shape HO.out
      have HR : Box (BldP D K pg i []) := boxed ⟨HP.out, .inl ⟨e, rfl⟩⟩
      rw [e]
      have t1 : decide ((D.n : Int) < (D.n : Int)) = false := decide_eq_false (by omega)
      clear hlt hle hil e
      go_wp2_with fail
      go_ret2
      exact ⟨i, a1, k1, none, 0, 0, [], rfl, HO.out, rfl, fun j hj => absurd hj (Nat.not_lt_zero _), fun _ => rfl, HR.out, HB.out⟩
end Go.Proofs.Ytdpjaafdpgkclaa
