/-
  For every list of lines, height and settings PagesFit answers true: where these may be, Heights tells how high each page is, none is higher than it should be unless it is one part, and the next part wouldn't have fitted.
  No condition besides the statement's own.
-/
import Derived.Test.YtjchioopfljjhaaRows
import Derived.WalkKit
import Derived.ProofKit
import Derived.OpenShut
import Derived.SizedLaws
import Derived.ShutString
import Derived.ChangeOld
import Derived.Below
import Derived.Test.YtjchioopfljjhaaHj
import Derived.Test.YtjchioopfljjhaaHk
import Derived.Test.YtjchioopfljjhaaHl
import Derived.Test.YtjchioopfljjhaaHi
import Derived.Test.YtjchioopfljjhaaHo
namespace Go.Proofs.Ytjchioopfljjhaa.pagesFit
open Go.ChangeShapes Go.WideShapes Go.ChangeAt Go.RowKit
open Go.ChangeMaps (open_string shut_string)
set_option linter.unusedVariables false
set_option linter.unusedSimpArgs false

theorem own : ownKnob Try.prog.godebug = none := by kernel_rfl
theorem laidOut : laidOutB Try.prog = true := by kernel_rfl

set_option maxRecDepth 100000 in
set_option maxHeartbeats 2000000 in
theorem walk (w : World) (ao0 : Option Addr) (n0 cap0 : Nat) (F0 : Nat → Slt) (hn0 : n0 ≤ maxLen ∧ n0 ≤ cap0) (hF0 : SltsAt (fun _ => True) w ao0 n0 F0) (a1 : Int) (w1 : (Lit.int .i64 a1).wf = true) (s2 : Stg) (hs2 : I64 s2.t ∧ I64 s2.l ∧ I64 s2.a ∧ I64 s2.d ∧ I64 s2.z ∧ I64 s2.o ∧ I64 s2.i) :
    Calls Try.prog 6 #[.slice ao0 n0 cap0, .int .i64 a1, s2.val] w fun e w' => e = .returned (.bool true) ∧ Below w.heap.size w w' := by
  obtain ⟨R, hR⟩ : ∃ R : Bool, (R = true ↔ Rts F0 n0 0) := by
    by_cases c : Rts F0 n0 0
    · exact ⟨true, by simp [c]⟩
    · exact ⟨false, by simp [c]⟩
  have hN : (n0 : Int) ≤ 9223372036854775807 := by have := hn0.1; unfold maxLen at this; omega
  obtain ⟨W0, hW0⟩ : ∃ W0, w.alloc (.cells #[.int .i64 s2.t, .int .i64 s2.l, .int .i64 s2.a, .int .i64 s2.d, .int .i64 s2.z, .int .i64 s2.o, .int .i64 s2.i] 24) = W0 := ⟨_, rfl⟩
  have hst := stc_new w s2
  have hB0 := (laid1 w (.cells #[.int .i64 s2.t, .int .i64 s2.l, .int .i64 s2.a, .int .i64 s2.d, .int .i64 s2.z, .int .i64 s2.o, .int .i64 s2.i] 24)).2.1
  rw [hW0] at hst hB0
  have HS := boxed hst
  have HB0 := boxed hB0
  have HW0 := boxed hW0
  have HH := boxed (hF0.below hB0)
  have HBx : Box (∀ W, Below W0.heap.size W0 W → Below w.heap.size w W) := boxed (fun W hb => below_step HB0.out (Nat.le_refl _) hb)
  clear hst hB0 hW0
  have HT := boxed (fun W (hb : Below W0.heap.size W0 W) => tried_any _ ao0 n0 cap0 F0 R hR a1 s2 W (HH.out.below hb) hn0.1)
  have HTi := boxed (trB_iff n0 R a1 s2)
  cases ht : trB n0 R a1 s2
  · rw [ht] at HT
    clear hF0 hs2 hn0 HH hR HTi ht
    unfold Stg.val at *
    go_enter Try.func6, Try.ntmps6
    go_upto_region 1 with fail
    rw [HW0.out]
    go_wp2_with fail
    refine (awake_any _).mono ?_
    rintro e w1 ⟨rfl, hb1⟩
    obtain ⟨c0, c1, c2, c3, c4, c5, c6⟩ := HS.out.below hb1
    have HB1 := boxed hb1
    clear hb1
    go_wp2_with fail
    refine (HT.out _ HB1.out).mono ?_
    rintro e w3 ⟨rfl, hb3⟩
    have HB3 := boxed (HBx.out _ (below_step HB1.out (Nat.le_refl _) hb3))
    clear hb3 c0 c1 c2 c3 c4 c5 c6 HT
    go_wp2_with fail
    go_ret
    exact ⟨rfl, HB3.out⟩
  rw [ht] at HT
  obtain ⟨hl2, hRt0, hE⟩ := HTi.out.1 ht
  have hRt := hR.1 hRt0
  have hD := dcok_of (F := F0) (n := n0) (H := a1) (g := s2) hE hRt hl2
  obtain ⟨D, hDd⟩ : ∃ D : Dc, D = ⟨F0, n0, s2.o, s2.i, a1⟩ := ⟨_, rfl⟩
  rw [← hDd] at hD
  have hDn : D.n = n0 := by rw [hDd]
  have hDF : D.F = F0 := by rw [hDd]
  have hDH : D.H = a1 := by rw [hDd]
  have HP : Box (∀ W, Below W0.heap.size W0 W → Calls Try.prog 10 #[.slice ao0 n0 cap0, .int .i64 a1, s2.val] W fun e w' => ∃ J ao' c', e = .returned (.tuple #[.slice ao' J c', .int .i64 0]) ∧ D.Pgs J ∧ NAt (fun b => W.heap.size ≤ b) w' ao' (D.its J) ∧ Below W.heap.size W w') := boxed (fun W hb => by
    subst hDd
    exact pag_ok _ s2 hD hE hRt _ ao0 cap0 W (HH.out.below hb) hn0.2)
  have HCu : Box (∀ (k : Nat) W, k ≤ n0 → Below W0.heap.size W0 W → Calls Try.prog 20 #[.slice ao0 n0 cap0, .int .i64 (k : Nat), s2.val] W fun e w' => e = .returned (.bool (D.cut k)) ∧ Below W.heap.size W w') := boxed (fun k W hk hb => by
    subst hDd
    exact refcut_any _ s2 rfl rfl _ ao0 cap0 k W (HH.out.below hb) hD.ok hk (by simp only; omega))
  have HHi : Box (∀ (a m : Nat) W, a + m ≤ n0 → Below W0.heap.size W0 W → Calls Try.prog 23 #[.slice ao0 n0 cap0, .int .i64 (a : Nat), .int .i64 ((a + m : Nat) : Int)] W fun e w' => e = .returned (.int .i64 (Go.Proofs.Ytjchioopfljjhaa.hi D.F a m)) ∧ Below W.heap.size W w') := boxed (fun a m W hm hb => by
    subst hDd
    exact (refhigh_any F0 n0 _ ao0 cap0 a m W (HH.out.below hb) hD.ok hm (by omega)).mono fun e w' ⟨he, hw⟩ => ⟨he, by rw [hw]; exact Below.refl _ _⟩)
  have HHe : Box (∀ (so : Option Addr) (sc J : Nat) (T : Nat → Prop) W, Below W0.heap.size W0 W → NAt T W so (D.its J) → D.Pgs J → Calls Try.prog 21 #[.slice ao0 n0 cap0, .slice so J sc] W fun e w' => ∃ G c', e = .returned (.slice (some ⟨G, 0, none⟩) J c') ∧ W.heap.size ≤ G ∧ RowI w' G J (fun p => Go.Proofs.Ytjchioopfljjhaa.hi D.F (D.it p) (D.it (p + 1) - D.it p)) ∧ Below W.heap.size W w') := boxed (fun so sc J T W hb hN hJ => by
    have hJn : J ≤ n0 := by have := D.it_ge J hJ.1; have := hJ.2; omega
    have hr : ∀ p, p < (D.its J).length → (D.its J).getD p 0 < endL (D.its J) p n0 ∧ endL (D.its J) p n0 ≤ n0 := by
      intro p hp
      rw [D.its_len] at hp
      rw [D.its_get J p hp, ← hDn, D.end_its hJ hp]
      have := D.nx_gt (D.it p) (hJ.1 p hp)
      exact ⟨this.1, this.2.1⟩
    have := heights_any _ T ao0 n0 cap0 F0 so sc (D.its J) W (HH.out.below hb) hN (fun j hj => by have := (hD.ok j (by omega)).1; rw [hDF] at this; exact this) hl2 (by rw [D.its_len]; omega) hn0.2 hr
    rw [D.its_len] at this
    refine this.mono ?_
    rintro e w' ⟨G, c', he, hG, ⟨arr, e0, hs, hg⟩, hb'⟩
    refine ⟨G, c', he, hG, ⟨arr, e0, hs, fun i hi => ?_⟩, hb'⟩
    rw [hg i hi]
    unfold hgt
    rw [D.its_get J i hi, ← hDn, D.end_its hJ hi, hDF])
  have HRe : Box (∀ (so : Option Addr) (sc J p : Nat) (T : Nat → Prop) W, NAt T W so (D.its J) → D.Pgs J → p < J → Calls Try.prog 22 #[.slice so J sc, .int .i64 (p : Nat), .int .i64 (n0 : Nat)] W fun e w' => e = .returned (.int .i64 (D.it (p + 1) : Nat)) ∧ Below W.heap.size W w') := boxed (fun so sc J p T W hN hJ hp => by
    have hJn : J ≤ n0 := by have := D.it_ge J hJ.1; have := hJ.2; omega
    have := refend_any T so sc (D.its J) p n0 W hN (by rw [D.its_len]; exact hp) (by rw [D.its_len]; omega)
    rw [D.its_len, ← hDn, D.end_its hJ hp] at this
    rw [← hDn]
    exact this.mono fun e w' ⟨he, hw⟩ => ⟨he, by rw [hw]; exact Below.refl _ _⟩)
  have HDk := boxed hDn
  have HDH := boxed hDH
  have HHb : Box (∀ a m, a + m ≤ n0 → 0 ≤ Go.Proofs.Ytjchioopfljjhaa.hi D.F a m ∧ Go.Proofs.Ytjchioopfljjhaa.hi D.F a m ≤ 209715200) := boxed (fun a m hm => hD.hi a m (by omega))
  clear hE hR hF0 hs2 hn0 HH hRt hD hDd hDn hDF hDH HTi hRt0 ht
  have hl3 : (n0 : Int) ≤ 200 := by omega
  unfold Stg.val at *
  go_enter Try.func6, Try.ntmps6
  go_upto_region 1 with fail
  rw [HW0.out]
  go_wp2_with fail
  refine (awake_any _).mono ?_
  rintro e w1 ⟨rfl, hb1⟩
  obtain ⟨c0, c1, c2, c3, c4, c5, c6⟩ := HS.out.below hb1
  have HB1 := boxed hb1
  clear hb1
  go_wp2_with fail
  refine (HT.out _ HB1.out).mono ?_
  rintro e w2 ⟨rfl, hb2⟩
  have HB2 := boxed (below_step HB1.out (Nat.le_refl _) hb2)
  clear hb2 c0 c1 c2 c3 c4 c5 c6 HT HB1
  obtain ⟨c0, c1, c2, c3, c4, c5, c6⟩ := HS.out.below HB2.out
  go_wp2_with fail
  refine (HP.out _ HB2.out).mono ?_
  rintro e w3 ⟨J, a3, k3, rfl, hJ, hN3, hb3⟩
  have HB3 := boxed (below_step HB2.out (Nat.le_refl _) hb3)
  have HN3 := boxed hN3
  have HJ := boxed hJ
  have hhe := HHe.out a3 k3 J _ w3 HB3.out hN3 hJ
  clear hb3 c0 c1 c2 c3 c4 c5 c6 hN3 hJ HP HB2 HHe
  have hJ2 : J ≤ n0 := by have := D.it_ge J HJ.out.1; have := HJ.out.2; have := HDk.out; omega
  have hJ3 : (J : Int) ≤ 200 := by omega
  go_wp2_with fail
  refine hhe.mono ?_
  rintro e w4 ⟨G, k4, rfl, hG, hRw, hb4⟩
  have HB4 := boxed (below_step HB3.out (Nat.le_refl _) hb4)
  have HN4 := boxed (HN3.out.below hb4)
  have HRw := boxed hRw
  clear hb4 hRw hhe HN3 HB3
  go_wp2_with fail
  go_loopw [10] (fun pv wr => ∃ p : Nat, p ≤ J ∧ pv = .int .i64 (p : Nat) ∧ Box (Below w4.heap.size w4 wr)) (fun pv _ => J - (intOf pv).toNat)
  case atStart => exact ⟨0, Nat.zero_le _, rfl, boxed (Below.refl _ _)⟩
  case round =>
    obtain ⟨p, hp, rfl, HB⟩ := hrel
    by_cases hlt : p < J
    · obtain ⟨b, rfl, hbw, -⟩ := HN4.out.form (by rw [D.its_len]; omega)
      have hre := HRe.out _ k3 J p _ wr (HN4.out.below HB.out) HJ.out hlt
      have han := HJ.out.1 p hlt
      obtain ⟨y1, y2, y3⟩ := D.nx_gt (D.it p) han
      have HOne := boxed (D.cn_one (D.it p) han)
      have HBest := boxed (D.nx_best (D.it p))
      have HCell : Box (∀ W, Below w4.heap.size w4 W → W.cell? ⟨b, p, none⟩ = some (.int .i64 (D.it p : Nat)) ∧ W.cell? ⟨G, p, none⟩ = some (.int .i64 (Go.Proofs.Ytjchioopfljjhaa.hi D.F (D.it p) (D.it (p + 1) - D.it p)))) := boxed (fun W hb => ⟨by
          have := (HN4.out.below hb).get p (by rw [D.its_len]; omega)
          rw [D.its_get J p hlt] at this
          exact this, ((HRw.out.below hb).get p hlt).1⟩)
      rw [show D.it (p + 1) = D.nx (D.it p) from rfl] at hre HCell
      rw [HDH.out] at HOne HBest
      rw [HDk.out] at han y2 HBest
      have hHb := HHb.out (D.it p) (D.nx (D.it p) - D.it p) (by omega)
      have hhi := fun W hb => HHi.out (D.it p) (D.nx (D.it p) - D.it p) W (by omega) hb
      rw [show D.it p + (D.nx (D.it p) - D.it p) = D.nx (D.it p) by omega] at hhi
      generalize D.it p = a at *
      generalize D.nx a = y at *
      have hp2 : (p : Int) < (J : Int) := by omega
      generalize hHv : Go.Proofs.Ytjchioopfljjhaa.hi D.F a (y - a) = Hv at *
      clear hHv
      go_wp2_with fail
      refine hre.mono ?_
      rintro e w5 ⟨rfl, hb5⟩
      have HB5 := boxed (below_step HB.out (Nat.le_refl _) hb5)
      clear hb5 hre
      obtain ⟨g0, g1⟩ := HCell.out _ HB5.out
      have v0 := cell_regrown g0
      have v1 := cell_regrown g1
      have CH : Box (∀ d os, Calls Try.prog 23 #[.slice ao0 n0 cap0, .int .i64 (a : Nat), .int .i64 (y : Nat)] (Go.Sort.grow (redrawn w5 d) os) fun e w'' => e = .returned (.int .i64 Hv) ∧ ∃ p : Regrown, w'' = Go.Sort.grow (redrawn w5 p.d) p.os) := boxed (fun d os => Calls.regrown_of (hhi _ (below_step HB4.out (Nat.le_refl _) (below_step HB5.out (Nat.le_refl _) (below_regrown w5 d os)))))
      have HBn : Box (∀ d os, Below w4.heap.size w4 (Go.Sort.grow (redrawn w5 d) os)) := boxed (fun d os => below_step HB5.out (Nat.le_refl _) (below_regrown w5 d os))
      clear g0 g1 hhi
      go_wp2_with fail
      refine wp_region_quiet_below (by kernel_rfl) (by kernel_rfl) ?_
      repeat (go_big_quiet_step (first | (go_at_call 23; exact CH.out _ _)))
      refine wpQuiet_nil ?_
      intro _ hw'
      obtain ⟨⟨dq, osq⟩, hw''⟩ := hw'
      subst hw''
      have HB6 := boxed (HBn.out dq osq)
      clear HBn CH v0 v1
      generalize Go.Sort.grow (redrawn w5 dq) osq = w6 at *
      obtain ⟨g0, g1⟩ := HCell.out _ HB6.out
      go_wp2_with fail
      clear g0 g1
      go_loopw [12, 13] (fun cv kv wx => ∃ m : Nat, a + m ≤ y ∧ cv = .int .i64 (D.cn a m : Nat) ∧ kv = .int .i64 ((a + m + 1 : Nat) : Int) ∧ Box (Below w4.heap.size w4 wx)) (fun _ kv _ => y + 1 - (intOf kv).toNat)
      case atStart => exact ⟨0, by omega, rfl, rfl, HB6⟩
      case round =>
        obtain ⟨m, hm, rfl, rfl, HBx⟩ := hrel
        by_cases hml : a + m < y
        · obtain ⟨c0, c1, c2, c3, c4, c5, c6⟩ := HS.out.below (below_step HB4.out (Nat.le_refl _) HBx.out)
          have hcu := HCu.out (a + m + 1) wr (by omega) (below_step HB4.out (Nat.le_refl _) HBx.out)
          have hcl := D.cn_le a m
          have HE : Box (D.cn a (m + 1) = if D.cut (a + m + 1) = true then D.cn a m + 1 else D.cn a m) := boxed rfl
          obtain ⟨q, hq⟩ : ∃ q : Nat, a + m + 1 = q := ⟨_, rfl⟩
          have HQ := boxed hq
          rw [hq] at hcu HE ⊢
          have q1 : (q : Int) ≤ (y : Int) := by omega
          have q2 : q ≤ y := by omega
          clear hq
          generalize D.cut q = C at *
          generalize hcm : D.cn a m = cm at *
          clear hcm
          go_wp2_with fail
          refine hcu.mono ?_
          rintro e w7 ⟨rfl, hb7⟩
          have HB7 := boxed (below_step HBx.out (Nat.le_refl _) hb7)
          clear hb7 hcu c0 c1 c2 c3 c4 c5 c6
          cases C with
          | true =>
            go_wp2_with fail
            go_roundw
            case rel => exact ⟨m + 1, by have := HQ.out; omega, by rw [HE.out] <;> rfl, by rw [show a + (m + 1) + 1 = q + 1 by have := HQ.out; omega] <;> rfl, HB7⟩
            case measure => simp [intOf]; omega
          | false =>
            go_wp2_with fail
            go_roundw
            case rel => exact ⟨m + 1, by have := HQ.out; omega, by rw [HE.out] <;> rfl, by rw [show a + (m + 1) + 1 = q + 1 by have := HQ.out; omega] <;> rfl, HB7⟩
            case measure => simp [intOf]; omega
        · obtain ⟨g0, g1⟩ := HCell.out _ HBx.out
          obtain ⟨yy, hyy⟩ : ∃ yy : Nat, a + m + 1 = yy := ⟨_, rfl⟩
          rw [hyy]
          have e0 : m = y - a := by omega
          have t0 : decide ((yy : Int) ≤ (y : Int)) = false := decide_eq_false (by omega)
          have t0' : decide (yy ≤ y) = false := decide_eq_false (by omega)
          clear hyy
          have tz : ∃ B : Bool, decide (a1 < Hv) = B ∧ (B = true → ((D.cn a m : Nat) : Int) = 1) := by
            by_cases u : a1 < Hv
            · exact ⟨true, decide_eq_true u, fun _ => by rw [e0, HOne.out u]; rfl⟩
            · exact ⟨false, decide_eq_false u, fun e => by cases e⟩
          obtain ⟨B, t1, t2⟩ := tz
          have hcl := D.cn_le a m
          generalize hcm : D.cn a m = cm at *
          clear hcm e0
          cases B with
          | true =>
            have T1 := t2 rfl
            clear t2
            by_cases hyn : y < n0
            · have tn : decide ((y : Int) < (n0 : Int)) = true := decide_eq_true (by omega)
              have tn2 : decide (y < n0) = true := decide_eq_true hyn
              go_wp2_with fail
              clear g0 g1 t0 t0' T1 t1
              go_loopw [14] (fun kv wy => ∃ k : Nat, y < k ∧ k ≤ n0 ∧ kv = .int .i64 (k : Nat) ∧ Box (Below w4.heap.size w4 wy)) (fun kv _ => n0 + 1 - (intOf kv).toNat)
              case atStart => exact ⟨y + 1, by omega, by omega, by first | rfl | go_num, HBx⟩
              case round =>
                obtain ⟨k, hk1, hk2, rfl, HBy⟩ := hrel
                obtain ⟨c0, c1, c2, c3, c4, c5, c6⟩ := HS.out.below (below_step HB4.out (Nat.le_refl _) HBy.out)
                have hcu := HCu.out k wr hk2 (below_step HB4.out (Nat.le_refl _) HBy.out)
                have HEnd : Box (D.cut k = false → k < n0) := boxed (fun e => by
                  by_cases u : k = n0
                  · have h9 := D.cut_end
                    rw [HDk.out, ← u, e] at h9
                    cases h9
                  · omega)
                have HBs := boxed (HBest.out k hk1 hk2)
                generalize D.cut k = C at *
                go_wp2_with fail
                refine hcu.mono ?_
                rintro e w7 ⟨rfl, hb7⟩
                have HB7 := boxed (below_step HBy.out (Nat.le_refl _) hb7)
                clear hb7 hcu c0 c1 c2 c3 c4 c5 c6
                cases C with
                | false =>
                  have hk3 := HEnd.out rfl
                  clear HEnd HBs
                  go_wp2_with fail
                  go_roundw
                  case rel => exact ⟨k + 1, by omega, by omega, by first | rfl | go_num, HB7⟩
                  case measure => simp [intOf]; omega
                | true =>
                  have hbs := HBs.out rfl
                  clear HEnd HBs
                  obtain ⟨g0, g1⟩ := HCell.out _ HB7.out
                  have hhi := HHi.out a (k - a) w7 (by omega) (below_step HB4.out (Nat.le_refl _) HB7.out)
                  rw [show a + (k - a) = k by omega] at hhi
                  generalize Go.Proofs.Ytjchioopfljjhaa.hi D.F a (k - a) = Hk at *
                  have t9 : decide (Hk ≤ a1) = false := decide_eq_false (by omega)
                  clear hbs g1
                  go_wp2_with fail
                  refine hhi.mono ?_
                  rintro e w8 ⟨rfl, hb8⟩
                  have HB8 := boxed (below_step HB7.out (Nat.le_refl _) hb8)
                  clear hb8 hhi g0
                  go_wp2_with fail
                  go_roundw
                  case rel => exact ⟨p + 1, by omega, by go_num, HB8⟩
                  case measure => simp [intOf]; omega
            · have tn : decide ((y : Int) < (n0 : Int)) = false := decide_eq_false (by omega)
              have tn2 : decide (y < n0) = false := decide_eq_false hyn
              go_wp2_with fail
              go_roundw
              case rel => exact ⟨p + 1, by omega, by go_num, HBx⟩
              case measure => simp [intOf]; omega
          | false =>
            clear t2
            have T1 : True := trivial
            by_cases hyn : y < n0
            · have tn : decide ((y : Int) < (n0 : Int)) = true := decide_eq_true (by omega)
              have tn2 : decide (y < n0) = true := decide_eq_true hyn
              go_wp2_with fail
              clear g0 g1 t0 t0' T1 t1
              go_loopw [14] (fun kv wy => ∃ k : Nat, y < k ∧ k ≤ n0 ∧ kv = .int .i64 (k : Nat) ∧ Box (Below w4.heap.size w4 wy)) (fun kv _ => n0 + 1 - (intOf kv).toNat)
              case atStart => exact ⟨y + 1, by omega, by omega, by first | rfl | go_num, HBx⟩
              case round =>
                obtain ⟨k, hk1, hk2, rfl, HBy⟩ := hrel
                obtain ⟨c0, c1, c2, c3, c4, c5, c6⟩ := HS.out.below (below_step HB4.out (Nat.le_refl _) HBy.out)
                have hcu := HCu.out k wr hk2 (below_step HB4.out (Nat.le_refl _) HBy.out)
                have HEnd : Box (D.cut k = false → k < n0) := boxed (fun e => by
                  by_cases u : k = n0
                  · have h9 := D.cut_end
                    rw [HDk.out, ← u, e] at h9
                    cases h9
                  · omega)
                have HBs := boxed (HBest.out k hk1 hk2)
                generalize D.cut k = C at *
                go_wp2_with fail
                refine hcu.mono ?_
                rintro e w7 ⟨rfl, hb7⟩
                have HB7 := boxed (below_step HBy.out (Nat.le_refl _) hb7)
                clear hb7 hcu c0 c1 c2 c3 c4 c5 c6
                cases C with
                | false =>
                  have hk3 := HEnd.out rfl
                  clear HEnd HBs
                  go_wp2_with fail
                  go_roundw
                  case rel => exact ⟨k + 1, by omega, by omega, by first | rfl | go_num, HB7⟩
                  case measure => simp [intOf]; omega
                | true =>
                  have hbs := HBs.out rfl
                  clear HEnd HBs
                  obtain ⟨g0, g1⟩ := HCell.out _ HB7.out
                  have hhi := HHi.out a (k - a) w7 (by omega) (below_step HB4.out (Nat.le_refl _) HB7.out)
                  rw [show a + (k - a) = k by omega] at hhi
                  generalize Go.Proofs.Ytjchioopfljjhaa.hi D.F a (k - a) = Hk at *
                  have t9 : decide (Hk ≤ a1) = false := decide_eq_false (by omega)
                  clear hbs g1
                  go_wp2_with fail
                  refine hhi.mono ?_
                  rintro e w8 ⟨rfl, hb8⟩
                  have HB8 := boxed (below_step HB7.out (Nat.le_refl _) hb8)
                  clear hb8 hhi g0
                  go_wp2_with fail
                  go_roundw
                  case rel => exact ⟨p + 1, by omega, by go_num, HB8⟩
                  case measure => simp [intOf]; omega
            · have tn : decide ((y : Int) < (n0 : Int)) = false := decide_eq_false (by omega)
              have tn2 : decide (y < n0) = false := decide_eq_false hyn
              go_wp2_with fail
              go_roundw
              case rel => exact ⟨p + 1, by omega, by go_num, HBx⟩
              case measure => simp [intOf]; omega
    · obtain rfl : p = J := by omega
      go_wp2_with fail
      go_ret
      exact ⟨rfl, HBx.out _ (below_step HB4.out (Nat.le_refl _) HB.out)⟩

set_option maxRecDepth 100000 in
theorem lifted (os : Os) (started : os.Started) (H : Type) (enc : TypeId × Value → H) :
    ReturnsInHanded {} Try.checked os 6 .any (Rows.pagesFitSpec.pre6 enc Try.prog Try.f6 Rows.pagesFitRow.domain false) (Rows.pagesFitSpec.post enc Try.prog Try.f6 false true false false) := by
  refine returnsInHanded_of_change_sized (C := Try.checked) own started (by kernel_rfl) Try.func6
    (ChangeSpec.witness6 (enc := enc) (C := Try.checked) false ⟨#[], #[.slice none 0 0, .int .i64 0, .agg #[.int .i64 0, .int .i64 0, .int .i64 0, .int .i64 0, .int .i64 0, .int .i64 0, .int .i64 0]], []⟩ 8 (by kernel_rfl) (by kernel_rfl) (by kernel_rfl) (by kernel_rfl)) ?_
  intro W base args ds gs before hval0 hW hcnd hsz0 _
  have hval : ∀ (j : Nat) t v, Try.f6.params[j]? = some t → args[j]? = some v → Value.okWide Try.prog W .any base t v := hval0
  have hsz : (DataW.weightsEach Try.prog (Try.f6.params.toList ++ Rows.pagesFitSpec.plain.varTypes Try.prog) (ds ++ gs)).all (· ≤ reachBytes) = true := hsz0
  have hW' := hW
  obtain ⟨p, q, hA0, hV, rfl, hfz, hnd⟩ := hW
  have hA : DataW.TrodAll enc Try.prog W 0 (fun _ => true) true Try.f6.params.toList args.toList ds p := hA0
  rw [Try.params6] at hA hval hsz
  obtain ⟨v0, vs0, d0, ds0, p0, q0, hargs, rfl, rfl, h0, r0⟩ := trodAll_cons hA
  obtain ⟨v1, vs1, d1, ds1, p1, q1, rfl, rfl, rfl, h1, r1⟩ := trodAll_cons r0
  obtain ⟨v2, vs2, d2, ds2, p2, q2, rfl, rfl, rfl, h2, r2⟩ := trodAll_cons r1
  obtain ⟨rfl, rfl, rfl⟩ := trodAll_nil r2
  obtain rfl : args = #[v0, v1, v2] := by cases args; simp_all
  obtain ⟨rfl, rfl⟩ := trodVars_none hV
  obtain ⟨ao0, n0, cap0, rfl⟩ := okWide_slice Try.underlying22 (hval 0 22 v0 rfl rfl)
  have k0 := h0
  have lt0 : ∀ x ∈ p0, x.block < W.heap.size := by obtain ⟨m, hm⟩ := k0; exact DataW.trod_lt m _ _ _ hm
  obtain ⟨hn0, F0, hF0⟩ : (n0 ≤ maxLen ∧ n0 ≤ cap0) ∧ ∃ F, SltsAt (fun _ => True) W ao0 n0 F := by
    obtain ⟨fuel, hf⟩ := k0
    exact open_slots hf
  obtain ⟨a1, rfl, rfl, rfl, w1⟩ := open_int Try.underlying3 (hval 1 3 v1 rfl rfl) h1
  have k2 := h2
  have lt2 : ∀ x ∈ p2, x.block < W.heap.size := by obtain ⟨m, hm⟩ := k2; exact DataW.trod_lt m _ _ _ hm
  obtain ⟨s2, rfl, hs2⟩ : ∃ x : Stg, v2 = x.val ∧ I64 x.t ∧ I64 x.l ∧ I64 x.a ∧ I64 x.d ∧ I64 x.z ∧ I64 x.o ∧ I64 x.i := by
    obtain ⟨fuel, hf⟩ := k2
    exact sett_value hf
  clear hA0 hval0
  refine (walk W ao0 n0 cap0 F0 hn0 hF0 a1 w1 s2 hs2).mono fun e W' ⟨he, hg⟩ => ?_
  subst he
  exact ⟨_, rfl, _, _, _, [], _, [], hW', trodAll_mk1 (shut_bool Try.underlying4 _), (trodAll_cons_mk (Below.trod laidOut (by kernel_rfl) (of_decide_eq_true (by kernel_rfl)) k0 hg lt0) (trodAll_cons_mk (shut_int Try.underlying3 w1) (trodAll_cons_mk (Below.trod laidOut (by kernel_rfl) (of_decide_eq_true (by kernel_rfl)) k2 hg lt2) trodAll_mk0))), rfl, hg.frame _, fun h => by cases h⟩

theorem proved : Rows.PagesFitSaid :=
  OpenClaim.holds_of_wide 6 Try.f6 rfl rfl rfl rfl rfl rfl rfl ⟨rfl, rfl, rfl, rfl, rfl⟩ rfl rfl rfl rfl rfl (by kernel_rfl) Try.func6 (by kernel_rfl)
    (of_decide_eq_true (by kernel_rfl)) (by unfold Func.isWrapper; first | (rw [if_pos (by decide +kernel)]; kernel_rfl) | (rw [if_neg (by decide +kernel)]; exact ⟨rfl, rfl⟩))
    (fun os started H enc _ => lifted os started H enc)
#print axioms proved
end Go.Proofs.Ytjchioopfljjhaa.pagesFit
