/-
  For any two layouts DiffLeast answers true: a page that both have is told just if it differs, and no more of it than differs; pages rise.
  No condition besides the statement's own (layouts above 20 pages, pages above 40 lines, lines above 20 runs and runs above 2^40 bytes are let go by the law itself).
-/
import Derived.Test.YtoodhpgaikmalaaRows
import Derived.WalkKit
import Derived.ProofKit
import Derived.OpenShut
import Derived.SizedLaws
import Derived.ShutString
import Derived.ChangeOld
import Derived.Below
import Derived.Test.YtoodhpgaikmalaaAd
import Derived.Deep.DeepCutAuto
import Derived.Lib.QuietBelow
import Derived.BigQuiet
namespace Go.Proofs.Ytoodhpgaikmalaa.diffLeast
open Go.ChangeShapes Go.WideShapes Go.ChangeAt Go.RowKit
open Go.ChangeMaps (open_string shut_string)
set_option linter.unusedVariables false
set_option linter.unusedSimpArgs false

theorem own : ownKnob Try.prog.godebug = none := by kernel_rfl
theorem laidOut : laidOutB Try.prog = true := by kernel_rfl

set_option maxRecDepth 100000 in
set_option maxHeartbeats 32000000 in
theorem walk (w : World) (ao0 : Option Addr) (n0 cap0 : Nat) (P0 : Nat → Pgv) (hn0 : n0 ≤ maxLen ∧ Sl ao0 cap0 n0) (hP0 : PgsR (fun _ => True) w ao0 n0 P0) (ao1 : Option Addr) (n1 cap1 : Nat) (P1 : Nat → Pgv) (hn1 : n1 ≤ maxLen ∧ Sl ao1 cap1 n1) (hP1 : PgsR (fun _ => True) w ao1 n1 P1) :
    Calls Try.prog 4 #[.slice ao0 n0 cap0, .slice ao1 n1 cap1] w fun e w' => e = .returned (.bool true) ∧ Below w.heap.size w w' := by
  have HAw := boxed (awake_any w)
  have HFw0 := boxed (fun W (hb : Below w.heap.size w W) => few_any _ ao0 n0 cap0 P0 W (hP0.below hb) hn0.1)
  have HIn0 := boxed (fun W (hb : Below w.heap.size w W) => fun h => pages_in (hP0.below hb) h)
  have HFw1 := boxed (fun W (hb : Below w.heap.size w W) => few_any _ ao1 n1 cap1 P1 W (hP1.below hb) hn1.1)
  have HIn1 := boxed (fun W (hb : Below w.heap.size w W) => fun h => pages_in (hP1.below hb) h)
  have hsl0 := hn0.2
  have hsl1 := hn1.2
  clear hn0 hP0 hn1 hP1
  go_enter Try.func4, Try.ntmps4
  go_wp2_with fail
  refine HAw.out.mono ?_
  rintro e w1 ⟨rfl, hb1⟩
  have HB1 := boxed hb1
  clear hb1 HAw
  go_wp2_with fail
  refine (HFw0.out _ HB1.out).mono ?_
  rintro e w9 ⟨b0, rfl, hq0, rfl⟩
  have HQ0 := boxed hq0
  clear hq0 HFw0
  cases b0 with
  | false =>
    have hun : undef = Value.tuple #[] := rfl
    go_wp2_with fail
    go_ret
    exact ⟨rfl, HB1.out⟩
  | true =>
    go_wp2_with fail
    refine (HFw1.out _ HB1.out).mono ?_
    rintro e w9 ⟨b1, rfl, hq1, rfl⟩
    have HQ1 := boxed hq1
    clear hq1 HFw1
    cases b1 with
    | false =>
      have hun : undef = Value.tuple #[] := rfl
      go_wp2_with fail
      go_ret
      exact ⟨rfl, HB1.out⟩
    | true =>
      obtain ⟨ps0, HPs0, hlp0, hfp0⟩ : ∃ ps : List (List Key), Box (∀ W, Below w.heap.size w W → PsAt (fun _ => True) W ao0 ps) ∧ ps.length = n0 ∧ Few ps := ⟨pgs n0 P0, boxed (fun W hb => (HIn0.out W hb (HQ0.out.1 (by first | rfl | trivial))).1), pgs_len _ _, (HIn0.out w (Below.refl _ _) (HQ0.out.1 (by first | rfl | trivial))).2⟩
      obtain ⟨ps1, HPs1, hlp1, hfp1⟩ : ∃ ps : List (List Key), Box (∀ W, Below w.heap.size w W → PsAt (fun _ => True) W ao1 ps) ∧ ps.length = n1 ∧ Few ps := ⟨pgs n1 P1, boxed (fun W hb => (HIn1.out W hb (HQ1.out.1 (by first | rfl | trivial))).1), pgs_len _ _, (HIn1.out w (Below.refl _ _) (HQ1.out.1 (by first | rfl | trivial))).2⟩
      clear HIn0 HQ0 HIn1 HQ1
      have HDf := boxed (fun W hb => diff_few _ _ ao0 ao1 ps0 ps1 cap0 cap1 W (HPs0.out W hb) (HPs1.out W hb) hfp0 hfp1)
      have HG0 := boxed (fun i (hi : i < ps0.length) => (⟨_, List.getElem?_eq_getElem hi⟩ : ∃ r, ps0[i]? = some r))
      have HG1 := boxed (fun i (hi : i < ps1.length) => (⟨_, List.getElem?_eq_getElem hi⟩ : ∃ r, ps1[i]? = some r))
      have HF0 := boxed hfp0.2
      have HF1 := boxed hfp1.2
      have HAR := boxed (fun i h r hd => at_reg ps0 ps1 i h r hd)
      have HNR := boxed (fun i h hd r hr => no_reg ps0 ps1 i h hd r hr)
      have HKN := boxed (fun i h => kAt_no ps0 ps1 i h)
      have HKO := boxed (fun i r h => kAt_one ps0 ps1 i r h)
      have HKL := boxed (fun i => kAt_le ps0 ps1 i)
      have hn0 : n0 ≤ 20 := by have := hfp0.1; omega
      have hn1 : n1 ≤ 20 := by have := hfp1.1; omega
      obtain ⟨N, hN, hN0, hN1, hNx⟩ : ∃ N, max ps0.length ps1.length = N ∧ n0 ≤ N ∧ n1 ≤ N ∧ (N = n0 ∨ N = n1) := ⟨max n0 n1, by rw [hlp0, hlp1], by omega, by omega, by omega⟩
      have HKE : Box (kAt ps0 ps1 N = (dif ps0 ps1).length) := boxed (by rw [← hN]; rfl)
      have HK0 : Box (kAt ps0 ps1 0 = 0) := boxed (by simp [kAt, dU])
      have hdl := dif_len ps0 ps1
      rw [hlp0] at HDf HG0
      rw [hlp1] at HDf HG1
      rw [hN] at HAR HNR hdl
      have HDD : Box (∀ i x y, ps0[i]? = some x → ps1[i]? = some y → x = y → dat ps0 ps1 i = []) := boxed (fun i x y => dat_same ps0 ps1 i x y)
      have HDI : Box (∀ i x y, ps0[i]? = some x → ps1[i]? = some y → x ≠ y → dat ps0 ps1 i = [⟨i, 1, pre x y, oldN x y, nowL x y⟩]) := boxed (fun i x y => dat_diff ps0 ps1 i x y)
      have HDA : Box (∀ i y, n0 ≤ i → ps1[i]? = some y → dat ps0 ps1 i = [⟨i, 2, 0, 0, y⟩]) := boxed (fun i y h => dat_added ps0 ps1 i y (by omega))
      have HDG : Box (∀ i x, ps0[i]? = some x → n1 ≤ i → dat ps0 ps1 i = [⟨i, 3, 0, x.length, []⟩]) := boxed (fun i x h h2 => dat_gone ps0 ps1 i x h (by omega))
      obtain ⟨D, hD⟩ : ∃ D, dif ps0 ps1 = D := ⟨_, rfl⟩
      rw [hD] at HDf HAR HNR HKE hdl
      have HNX := boxed hNx
      have hN20 : N ≤ 20 := by rcases hNx with e | e <;> omega
      clear hfp0 hfp1 hlp0 hlp1 hsl0 hsl1 hN hD hNx
      go_wp2_with fail
      refine (HDf.out _ HB1.out).mono ?_
      rintro e w2 ⟨ro, rc, rfl, hrs, hra, hb2⟩
      have HB2 := boxed (below_step HB1.out (Nat.le_refl _) hb2)
      have HRA := boxed (fun W (hb : Below w2.heap.size w2 W) => hra.below hb)
      have HRG := boxed (fun i (hi : i < D.length) => (⟨_, List.getElem?_eq_getElem hi⟩ : ∃ r, D[i]? = some r))
      obtain ⟨dl, hdq⟩ : ∃ dl, D.length = dl := ⟨_, rfl⟩
      have HDL : Box (∀ (i : Nat) (r : Rg), D[i]? = some r → i < dl) := boxed (fun i r h => by rw [← hdq]; exact (List.getElem?_eq_some_iff.1 h).1)
      rw [hdq] at HKE hdl HRG ⊢
      have hdl2 : dl ≤ 20 := by omega
      clear hrs hra hb2 HDf hdq
      have HB22 : Box (Below w2.heap.size w2 w2) := boxed (Below.refl _ _)
      have HME : Box (∀ i : Nat, i < N → N - (intOf (.int .i64 ((i : Int) + 1))).toNat < N - (intOf (.int .i64 ((i : Nat) : Int))).toNat) := boxed (fun i h => by simp [intOf]; omega)
      go_wp2_with fail
      go_loopw [6, 7] (fun kv iv wr => ∃ i : Nat, i ≤ N ∧ iv = .int .i64 (i : Nat) ∧ kv = .int .i64 (kAt ps0 ps1 i : Nat) ∧ Box (Below w2.heap.size w2 wr)) (fun _ iv _ => N - (intOf iv).toNat)
      case atStart => exact ⟨0, Nat.zero_le _, rfl, by rw [HK0.out] <;> rfl, HB22⟩
      case round =>
        obtain ⟨i, hi, rfl, rfl, HB⟩ := hrel
        have hbw := below_step HB2.out (Nat.le_refl _) HB.out
        have hkl := HKL.out i
        by_cases p0 : i < n0
        · obtain ⟨x, ex⟩ := HG0.out i p0
          obtain ⟨ab, aoff, xa, xc, rfl, -, c0, hxs, hxl⟩ := (HPs0.out _ hbw) i x ex
          have t1 : decide ((i : Int) < (n0 : Int)) = true := decide_eq_true (by omega)
          have t2 : decide ((n0 : Int) ≤ (i : Int)) = false := decide_eq_false (by omega)
          have hi0 : (i : Int) < (n0 : Int) := by omega
          have hxm := HF0.out i x ex
          by_cases p1 : i < n1
          · obtain ⟨y, ey⟩ := HG1.out i p1
            obtain ⟨bb, boff, ya, yc, rfl, -, c1, hys, hyl⟩ := (HPs1.out _ hbw) i y ey
            have t3 : decide ((n1 : Int) ≤ (i : Int)) = false := decide_eq_false (by omega)
            have t2n : decide (n0 ≤ i) = false := decide_eq_false (by omega)
            have t3n : decide (n1 ≤ i) = false := decide_eq_false (by omega)
            have p2 : ¬ n0 ≤ i := by omega
            have p3 : ¬ n1 ≤ i := by omega
            have hi1 : (i : Int) < (n1 : Int) := by omega
            have hym := HF1.out i y ey
            obtain ⟨X, hX⟩ : ∃ X, x.length = X := ⟨_, rfl⟩
            obtain ⟨Y, hY⟩ : ∃ Y, y.length = Y := ⟨_, rfl⟩
            have c0' := c0
            have c1' := c1
            rw [hX] at c0
            rw [hY] at c1
            obtain ⟨v, hv⟩ : ∃ v, decide (x = y) = v := ⟨_, rfl⟩
            go_upto_region 10 with (fail)
            go_cut [8] (fun s8 wx => s8 = .bool (!v) ∧ wr = wx)
            case first =>
              by_cases c : x = y
              · have hdt := HDD.out i x y ex ey c
                have HNo := boxed (HNR.out i (by omega) hdt)
                have hv1 : v = true := by rw [← hv]; exact decide_eq_true c
                clear hv
                subst hv1
                clear c hdt ex ey
                by_cases hk : kAt ps0 ps1 i < dl
                · obtain ⟨r, er⟩ := HRG.out _ hk
                  have hpg := HNo.out r er
                  obtain ⟨-, b', off', la, lc, rfl, -, ⟨r0, r1, r2, r3, r4⟩, -, -⟩ := (HRA.out _ HB.out) _ r er
                  have tk : decide (((kAt ps0 ps1 i : Nat) : Int) < (dl : Int)) = true := decide_eq_true (by omega)
                  have tp : (r.pg == (i : Int)) = false := by rw [beq_eq_false_iff_ne]; exact hpg
                  have hk2 : ((kAt ps0 ps1 i : Nat) : Int) < (dl : Int) := by omega
                  clear er hpg
                  generalize kAt ps0 ps1 i = K at *
                  go_wp2_with fail
                  go_meet
                  case rel => exact ⟨rfl, rfl⟩
                · have tk : decide (((kAt ps0 ps1 i : Nat) : Int) < (dl : Int)) = false := decide_eq_false (by omega)
                  generalize kAt ps0 ps1 i = K at *
                  go_wp2_with fail
                  go_meet
                  case rel => exact ⟨rfl, rfl⟩
              · have hdt := HDI.out i x y ex ey c
                have her := HAR.out i (by omega) _ hdt
                have hkd := HDL.out _ _ her
                obtain ⟨-, b', off', la, lc, rfl, -, ⟨r0, r1, r2, r3, r4⟩, -, -⟩ := (HRA.out _ HB.out) _ _ her
                have hv1 : v = false := by rw [← hv]; exact decide_eq_false c
                clear hv
                subst hv1
                have tk : decide (((kAt ps0 ps1 i : Nat) : Int) < (dl : Int)) = true := by unfold kAt; exact decide_eq_true (by omega)
                have hk2 : ((kAt ps0 ps1 i : Nat) : Int) < (dl : Int) := by unfold kAt; omega
                change (wr.cell? ⟨b', off' + kAt ps0 ps1 i * 5, none⟩ = _) at r0
                simp only at r0
                clear c hdt ex ey her hkd r1 r2 r3 r4
                generalize kAt ps0 ps1 i = K at *
                go_wp2_with fail
                go_meet
                case rel => exact ⟨rfl, rfl⟩
            case rest =>
              obtain ⟨rfl, rfl⟩ := hcut
              as_aux_lemma =>
                have hb1 : ((!v) == v) = false := by cases v <;> rfl
                have hb2 : ((!v) != (!v)) = false := by cases v <;> rfl
                have va := cell_regrown c0
                have vb := cell_regrown c1
                have CS1 := boxed (fun d os => Calls.regrown_of (w := wr) (d := d) (os := os) (refpage_any _ _ xa ya x y xc yc _ (hxl.below (below_regrown wr d os)) (hyl.below (below_regrown wr d os)) (by omega)))
                have CS2 := boxed (fun d os => Calls.regrown_of (w := wr) (d := d) (os := os) (alike_any _ _ xa ya x y xc yc _ (hxl.below (below_regrown wr d os)) (hyl.below (below_regrown wr d os)) (by omega)))
                rw [hv] at CS1 CS2
                rw [hX, hY] at CS1 CS2
                go_wp2_with fail
                refine wp_region_quiet_below (by kernel_rfl) (by kernel_rfl) ?_
                repeat (go_big_quiet_step (first | (with_reducible exact CS1.out _ _) | (with_reducible exact CS2.out _ _)))
                refine wpQuiet_nil ?_
                intro _ hw'
                obtain ⟨⟨dq, osq⟩, hw''⟩ := hw'
                subst hw''
                have HBq := boxed (below_regrown wr dq osq)
                have HB5 := boxed (below_step HB.out (Nat.le_refl _) HBq.out)
                clear va vb CS1 CS2
                generalize Go.Sort.grow (redrawn wr dq) osq = w5 at *
                clear hb1 hb2
                by_cases c : x = y
                · have HKn := boxed (HKN.out i (HDD.out i x y ex ey c))
                  have hv1 : v = true := by rw [← hv]; exact decide_eq_true c
                  clear hv
                  subst hv1
                  clear c ex ey
                  go_wp2_with fail
                  go_roundw
                  case rel => exact ⟨i + 1, by omega, by go_num, by rw [HKn.out], HB5⟩
                  case measure => simp [intOf]; omega
                have hdt := HDI.out i x y ex ey c
                have HKn := boxed (HKO.out i _ hdt)
                have her := HAR.out i (by omega) _ hdt
                have hkd := HDL.out _ _ her
                obtain ⟨-, b', off', la, lc, rfl, -, ⟨g0, g1, g2, g3, g4⟩, hls, hll⟩ := (HRA.out _ HB5.out) _ _ her
                have hv1 : v = false := by rw [← hv]; exact decide_eq_false c
                clear hv
                subst hv1
                have HFD := boxed (fun a b h1 h2 ha hb => first_differs x y a b h1 h2 ha hb)
                have HLD := boxed (fun a b h1 h2 ha hb => last_differs x y a b h1 h2 ha hb)
                have hle := bck_le x y
                have hnl := now_len x y
                have hod : oldN x y = x.length - bck x y - pre x y := rfl
                have hll' := hll
                obtain ⟨P, hP⟩ : ∃ P, pre x y = P := ⟨_, rfl⟩
                obtain ⟨O, hO⟩ : ∃ O, oldN x y = O := ⟨_, rfl⟩
                obtain ⟨Lw, hLw⟩ : ∃ L, nowL x y = L := ⟨_, rfl⟩
                obtain ⟨B9, hB9⟩ : ∃ B, bck x y = B := ⟨_, rfl⟩
                simp only [hP, hO, hLw] at g0 g1 g2 g3 g4 hls hll HFD HLD her
                simp only [hP, hO, hLw, hB9, hX, hY] at hle hnl hod
                obtain ⟨L, hL⟩ : ∃ L, Lw.length = L := ⟨_, rfl⟩
                rw [hL] at g4 hnl HFD
                have hXO : X - O = Y - L := by omega
                have hPO : P + O ≤ X := by omega
                have hOX : O ≤ X := by omega
                have hLY : L ≤ Y := by omega
                have hX2 : X ≤ 40 := by omega
                have hY2 : Y ≤ 40 := by omega
                have HLF := boxed (least_facts P O X Y L hPO hXO hLY hX2 hY2)
                have hi40 : i ≤ 40 := by omega
                have hK40 : kAt ps0 ps1 i ≤ 40 := by omega
                have HBD := boxed (show i < N ∧ P + O ≤ X ∧ L ≤ Y ∧ X ≤ 40 ∧ Y ≤ 40 ∧ kAt ps0 ps1 i ≤ 20 from ⟨by omega, hPO, hLY, hX2, hY2, by omega⟩)
                have tk : decide (((kAt ps0 ps1 i : Nat) : Int) < (dl : Int)) = true := by unfold kAt; exact decide_eq_true (by omega)
                have hk2 : ((kAt ps0 ps1 i : Nat) : Int) < (dl : Int) := by unfold kAt; omega
                have hkN : kAt ps0 ps1 i ≤ i := hkl
                change (w5.cell? ⟨b', off' + kAt ps0 ps1 i * 5, none⟩ = _) at g0
                change (w5.cell? ⟨b', off' + kAt ps0 ps1 i * 5 + 1, none⟩ = _) at g1
                change (w5.cell? ⟨b', off' + kAt ps0 ps1 i * 5 + 2, none⟩ = _) at g2
                change (w5.cell? ⟨b', off' + kAt ps0 ps1 i * 5 + 3, none⟩ = _) at g3
                change (w5.cell? ⟨b', off' + kAt ps0 ps1 i * 5 + 4, none⟩ = _) at g4
                have HXL := boxed (hxl.below HBq.out)
                have HLL := boxed hll
                have HXX := boxed (And.intro hX hL)
                have hwk : wrap64 (((kAt ps0 ps1 i : Nat) : Int) + 1) = ((kAt ps0 ps1 i : Nat) : Int) + 1 := by unfold wrap64; omega
                have d0 := hold HBq.out c0
                have d1 := hold HBq.out c1
                clear c hdt ex ey her hkd hle hnl hod hP hO hLw hB9 hll' hXO hPO hOX hLY hX2 hY2 hdl hdl2 hn0 hn1 hN0 hN1 hN20 hkN hkl
                generalize kAt ps0 ps1 i = K at *
                as_aux_lemma =>
                  have l1 := laid1 w5 (.cells #[.int .i64 (i : Nat), .int .i64 1, .int .i64 (P : Nat), .int .i64 (O : Nat), .slice la L lc] 39)
                  obtain ⟨W6, hW6⟩ : ∃ W6, w5.alloc (.cells #[.int .i64 (i : Nat), .int .i64 1, .int .i64 (P : Nat), .int .i64 (O : Nat), .slice la L lc] 39) = W6 := ⟨_, rfl⟩
                  rw [hW6] at l1
                  have HW6 := boxed hW6
                  have HL1 := boxed l1
                  have HB6 := boxed (below_step HB5.out (Nat.le_refl _) l1.2.1)
                  have d0 := hold l1.2.1 d0
                  have d1 := hold l1.2.1 d1
                  obtain ⟨⟨e0, e1, e2, e3, e4⟩, -⟩ := cells5 l1.1
                  have HXL6 := boxed (HXL.out.below l1.2.1)
                  have HLL6 := boxed (HLL.out.below l1.2.1)
                  clear c0 c1 c0' c1' l1 hW6
                  go_upto_region 19 with (fail)
                  rw [HW6.out]
                  clear g0 g1 g2 g3 g4
                  obtain ⟨PO, XO, hPOq, q1, q2, q3, q4, q5, q6, q7, q4a, q7a, q4n⟩ := HLF.out
                  have HPOQ := boxed hPOq
                  clear hPOq p2 p3 hi tk t2n t3n t1 t2 t3 hxs hys hls
                  go_wp2_with fail
                  go_quiet (fail)
                  clear q1 q2 q3 q4 q5 q6 q7 q4a q7a q4n
                  have HBn := boxed (bel_drewN W6.heap.size W6 nq)
                  have HB7 := boxed (HB6.out.trans (bel_drewN _ W6 nq))
                  have HXL7 := boxed (HXL6.out.below HBn.out)
                  have HLL7 := boxed (HLL6.out.below HBn.out)
                  have d0 := hold HBn.out d0
                  have d1 := hold HBn.out d1
                  have e0 := hold HBn.out e0
                  have e1 := hold HBn.out e1
                  have e2 := hold HBn.out e2
                  have e3 := hold HBn.out e3
                  have e4 := hold HBn.out e4
                  generalize W6.drewN nq = w7 at *
                  by_cases hO0 : 0 < O
                  · have u1 : decide ((0 : Int) < (O : Int)) = true := decide_eq_true (Int.ofNat_lt.2 hO0)
                    have u1n : decide (0 < O) = true := decide_eq_true hO0
                    have p2 : ¬ n0 ≤ i := by omega
                    have p3 : ¬ n1 ≤ i := by omega
                    have t2n : decide (n0 ≤ i) = false := decide_eq_false p2
                    have t3n : decide (n1 ≤ i) = false := decide_eq_false p3
                    by_cases hL0 : 0 < L
                    · have q3 : IntKind.i64.wrap ((P : Int) + (O : Int)) = (PO : Int) := by have h1 := HPOQ.out; have h2 := HBD.out; rw [IntKind.wrap_i64]; omega
                      obtain ⟨ja, jl, hja, hjl, s1, s2, z1, z2, z3, z4, z5, z6, z7, -, u2⟩ := least_ends P O X L PO HPOQ.out HBD.out.2.1 hO0 hL0 HBD.out.2.2.2.1 (Nat.le_trans HBD.out.2.2.1 HBD.out.2.2.2.2.1)
                      have u2n : decide (0 < L) = true := decide_eq_true hL0
                      have hPX : P < x.length := by rw [HXX.out.1]; exact z5
                      have hjX : ja < x.length := by rw [HXX.out.1]; exact z6
                      have hjL : jl < Lw.length := by rw [HXX.out.2]; exact z7
                      have h0L : 0 < Lw.length := by rw [HXX.out.2]; exact hL0
                      obtain ⟨m1, ⟨km1, em1⟩, pm1, ma, mo, rfl, m10, m11, m12, m13, m14, m15, m16, m17, m18⟩ := HXL7.out.line P hPX
                      obtain ⟨m2, ⟨km2, em2⟩, pm2, na, no, rfl, m20, m21, m22, m23, m24, m25, m26, m27, m28⟩ := HLL7.out.line 0 h0L
                      simp only [Nat.zero_mul, Nat.add_zero] at m20 m21 m22 m23 m24 m25 m26 m27 m28
                      obtain ⟨m3, ⟨km3, em3⟩, pm3, m30, m31, m32, m33, m34, m35, m36, m37, m38⟩ := HXL7.out.get ja hjX
                      obtain ⟨m4, ⟨km4, em4⟩, pm4, m40, m41, m42, m43, m44, m45, m46, m47, m48⟩ := HLL7.out.get jl hjL
                      have k1 : decide (key m1 = key m2) = false := decide_eq_false (HFD.out _ _ hO0 hL0 em1 em2)
                      have k2 : decide (key m3 = key m4) = false := decide_eq_false (HLD.out _ _ hO0 h0L (by rw [hja]; exact em3) (by rw [HXX.out.2, hjl]; exact em4))
                      have CS1 := boxed (fun d os => Calls.regrown_of (w := w7) (d := d) (os := os) (line14_any m1 m2 (pm1.below (below_regrown w7 d os)) (pm2.below (below_regrown w7 d os)) km1 km2))
                      have CS2 := boxed (fun d os => Calls.regrown_of (w := w7) (d := d) (os := os) (line14_any m3 m4 (pm3.below (below_regrown w7 d os)) (pm4.below (below_regrown w7 d os)) km3 km4))
                      rw [k1] at CS1
                      rw [k2] at CS2
                      simp only [Lne.val] at CS1 CS2
                      have vm10 := cell_regrown m10
                      have vm11 := cell_regrown m11
                      have vm12 := cell_regrown m12
                      have vm13 := cell_regrown m13
                      have vm14 := cell_regrown m14
                      have vm15 := cell_regrown m15
                      have vm16 := cell_regrown m16
                      have vm17 := cell_regrown m17
                      have vm18 := cell_regrown m18
                      have vm20 := cell_regrown m20
                      have vm21 := cell_regrown m21
                      have vm22 := cell_regrown m22
                      have vm23 := cell_regrown m23
                      have vm24 := cell_regrown m24
                      have vm25 := cell_regrown m25
                      have vm26 := cell_regrown m26
                      have vm27 := cell_regrown m27
                      have vm28 := cell_regrown m28
                      have vm30 := cell_regrown m30
                      have vm31 := cell_regrown m31
                      have vm32 := cell_regrown m32
                      have vm33 := cell_regrown m33
                      have vm34 := cell_regrown m34
                      have vm35 := cell_regrown m35
                      have vm36 := cell_regrown m36
                      have vm37 := cell_regrown m37
                      have vm38 := cell_regrown m38
                      have vm40 := cell_regrown m40
                      have vm41 := cell_regrown m41
                      have vm42 := cell_regrown m42
                      have vm43 := cell_regrown m43
                      have vm44 := cell_regrown m44
                      have vm45 := cell_regrown m45
                      have vm46 := cell_regrown m46
                      have vm47 := cell_regrown m47
                      have vm48 := cell_regrown m48
                      have ve0 := cell_regrown e0
                      have ve1 := cell_regrown e1
                      have ve2 := cell_regrown e2
                      have ve3 := cell_regrown e3
                      have ve4 := cell_regrown e4
                      have vd0 := cell_regrown d0
                      have vd1 := cell_regrown d1
                      clear m10 m11 m12 m13 m14 m15 m16 m17 m18 m20 m21 m22 m23 m24 m25 m26 m27 m28 m30 m31 m32 m33 m34 m35 m36 m37 m38 m40 m41 m42 m43 m44 m45 m46 m47 m48 pm1 pm2 pm3 pm4 km1 km2 km3 km4 em1 em2 em3 em4 k1 k2 hja hjl
                      as_aux_lemma =>
                        go_wp2_with fail
                        refine wp_region_quiet_below (by kernel_rfl) (by kernel_rfl) ?_
                        repeat (go_big_quiet_step (first | (with_reducible exact CS1.out _ _) | (with_reducible exact CS2.out _ _)))
                        refine wpQuiet_nil ?_
                        intro _ hw'
                        obtain ⟨⟨dq, osq⟩, hw''⟩ := hw'
                        subst hw''
                        have HB8 := boxed (below_step HB7.out (Nat.le_refl _) (below_regrown w7 dq osq))
                        clear q3 s1 s2 CS1 CS2 ve0 ve1 ve2 ve3 ve4 vd0 vd1 vm10 vm11 vm12 vm13 vm14 vm15 vm16 vm17 vm18 vm20 vm21 vm22 vm23 vm24 vm25 vm26 vm27 vm28 vm30 vm31 vm32 vm33 vm34 vm35 vm36 vm37 vm38 vm40 vm41 vm42 vm43 vm44 vm45 vm46 vm47 vm48
                        generalize Go.Sort.grow (redrawn w7 dq) osq = w8 at *
                        go_wp2_with fail
                        go_roundw
                        case rel => exact ⟨i + 1, HBD.out.1, congrArg (Value.int IntKind.i64) (rfl : (i : Int) + 1 = ((i + 1 : Nat) : Int)), (congrArg (Value.int IntKind.i64) (hwk.trans (rfl : (K : Int) + 1 = ((K + 1 : Nat) : Int)))).trans (congrArg (fun n : Nat => Value.int IntKind.i64 (n : Int)) HKn.out.symm), HB8⟩
                        case measure => exact HME.out i HBD.out.1
                    · have u2 : decide ((0 : Int) < (L : Int)) = false := decide_eq_false (by omega)
                      go_wp2_with fail
                      go_roundw
                      case rel => exact ⟨i + 1, HBD.out.1, congrArg (Value.int IntKind.i64) (rfl : (i : Int) + 1 = ((i + 1 : Nat) : Int)), (congrArg (Value.int IntKind.i64) (hwk.trans (rfl : (K : Int) + 1 = ((K + 1 : Nat) : Int)))).trans (congrArg (fun n : Nat => Value.int IntKind.i64 (n : Int)) HKn.out.symm), HB7⟩
                      case measure => exact HME.out i HBD.out.1
                  · have u1 : decide ((0 : Int) < (O : Int)) = false := decide_eq_false (fun h => hO0 (Int.ofNat_lt.1 h))
                    have u1n : decide (0 < O) = false := decide_eq_false hO0
                    go_wp2_with fail
                    go_roundw
                    case rel => exact ⟨i + 1, HBD.out.1, congrArg (Value.int IntKind.i64) (rfl : (i : Int) + 1 = ((i + 1 : Nat) : Int)), (congrArg (Value.int IntKind.i64) (hwk.trans (rfl : (K : Int) + 1 = ((K + 1 : Nat) : Int)))).trans (congrArg (fun n : Nat => Value.int IntKind.i64 (n : Int)) HKn.out.symm), HB7⟩
                    case measure => exact HME.out i HBD.out.1
          · have hdt := HDG.out i x ex (by omega)
            have t3 : decide ((n1 : Int) ≤ (i : Int)) = true := decide_eq_true (by omega)
            have t2n : decide (n0 ≤ i) = false := decide_eq_false (by omega)
            have t3n : decide (n1 ≤ i) = true := decide_eq_true (by omega)
            have p2 : ¬ n0 ≤ i := by omega
            have p3 : n1 ≤ i := by omega
            have HKn := boxed (HKO.out i _ hdt)
            have her := HAR.out i (by omega) _ hdt
            have hkd := HDL.out _ _ her
            obtain ⟨-, b', off', la, lc, rfl, -, ⟨r0, r1, r2, r3, r4⟩, -, -⟩ := (HRA.out _ HB.out) _ _ her
            have tk : decide (((kAt ps0 ps1 i : Nat) : Int) < (dl : Int)) = true := by unfold kAt; exact decide_eq_true (by omega)
            have hk2 : ((kAt ps0 ps1 i : Nat) : Int) < (dl : Int) := by unfold kAt; omega
            change (wr.cell? ⟨b', off' + kAt ps0 ps1 i * 5, none⟩ = _) at r0
            change (wr.cell? ⟨b', off' + kAt ps0 ps1 i * 5 + 1, none⟩ = _) at r1
            simp only at r0 r1
            clear ex hdt her hkd r2 r3 r4
            generalize kAt ps0 ps1 i = K at *
            have hwk : wrap64 ((K : Int) + 1) = (K : Int) + 1 := by unfold wrap64; omega
            go_wp2_with fail
            go_roundw
            case rel => exact ⟨i + 1, by omega, by go_num, by rw [HKn.out] <;> (first | rfl | go_num), HB⟩
            case measure => simp [intOf]; omega
        · by_cases p1 : i < n1
          · obtain ⟨y, ey⟩ := HG1.out i p1
            have t1 : decide ((i : Int) < (n0 : Int)) = false := decide_eq_false (by omega)
            have t2 : decide ((n0 : Int) ≤ (i : Int)) = true := decide_eq_true (by omega)
            have t1' : decide ((i : Int) < (n1 : Int)) = true := decide_eq_true (by omega)
            have t3 : decide ((n1 : Int) ≤ (i : Int)) = false := decide_eq_false (by omega)
            have t2n : decide (n0 ≤ i) = true := decide_eq_true (by omega)
            have t3n : decide (n1 ≤ i) = false := decide_eq_false (by omega)
            have p2 : n0 ≤ i := by omega
            have p3 : ¬ n1 ≤ i := by omega
            have hdt := HDA.out i y (by omega) ey
            have HKn := boxed (HKO.out i _ hdt)
            have her := HAR.out i (by omega) _ hdt
            have hkd := HDL.out _ _ her
            obtain ⟨-, b', off', la, lc, rfl, -, ⟨r0, r1, r2, r3, r4⟩, -, -⟩ := (HRA.out _ HB.out) _ _ her
            have tk : decide (((kAt ps0 ps1 i : Nat) : Int) < (dl : Int)) = true := by unfold kAt; exact decide_eq_true (by omega)
            have hk2 : ((kAt ps0 ps1 i : Nat) : Int) < (dl : Int) := by unfold kAt; omega
            change (wr.cell? ⟨b', off' + kAt ps0 ps1 i * 5, none⟩ = _) at r0
            change (wr.cell? ⟨b', off' + kAt ps0 ps1 i * 5 + 1, none⟩ = _) at r1
            simp only at r0 r1
            clear ey hdt her hkd r2 r3 r4
            generalize kAt ps0 ps1 i = K at *
            have hwk : wrap64 ((K : Int) + 1) = (K : Int) + 1 := by unfold wrap64; omega
            go_wp2_with fail
            go_roundw
            case rel => exact ⟨i + 1, by omega, by go_num, by rw [HKn.out] <;> (first | rfl | go_num), HB⟩
            case measure => simp [intOf]; omega
          · have t1 : decide ((i : Int) < (n0 : Int)) = false := decide_eq_false (by omega)
            have t1' : decide ((i : Int) < (n1 : Int)) = false := decide_eq_false (by omega)
            have hiN : i = N := by rcases HNX.out with e | e <;> omega
            have hke : kAt ps0 ps1 i = dl := by rw [hiN]; exact HKE.out
            have HF := boxed hbw
            rw [hke]
            clear hke hiN hkl
            go_wp2_with fail
            go_ret
            exact ⟨rfl, HF.out⟩

set_option maxRecDepth 100000 in
theorem lifted (os : Os) (started : os.Started) (H : Type) (enc : TypeId × Value → H) :
    ReturnsInHanded {} Try.checked os 4 .any (Rows.diffLeastSpec.pre6 enc Try.prog Try.f4 Rows.diffLeastRow.domain false) (Rows.diffLeastSpec.post enc Try.prog Try.f4 false true false false) := by
  refine returnsInHanded_of_change_sized (C := Try.checked) own started (by kernel_rfl) Try.func4
    (ChangeSpec.witness6 (enc := enc) (C := Try.checked) false ⟨#[], #[.slice none 0 0, .slice none 0 0], []⟩ 8 (by kernel_rfl) (by kernel_rfl) (by kernel_rfl) (by kernel_rfl)) ?_
  intro W base args ds gs before hval0 hW hcnd hsz0 _
  have hval : ∀ (j : Nat) t v, Try.f4.params[j]? = some t → args[j]? = some v → Value.okWide Try.prog W .any base t v := hval0
  have hsz : (DataW.weightsEach Try.prog (Try.f4.params.toList ++ Rows.diffLeastSpec.plain.varTypes Try.prog) (ds ++ gs)).all (· ≤ reachBytes) = true := hsz0
  have hW' := hW
  obtain ⟨p, q, hA0, hV, rfl, hfz, hnd⟩ := hW
  have hA : DataW.TrodAll enc Try.prog W 0 (fun _ => true) true Try.f4.params.toList args.toList ds p := hA0
  rw [Try.params4] at hA hval hsz
  obtain ⟨v0, vs0, d0, ds0, p0, q0, hargs, rfl, rfl, h0, r0⟩ := trodAll_cons hA
  obtain ⟨v1, vs1, d1, ds1, p1, q1, rfl, rfl, rfl, h1, r1⟩ := trodAll_cons r0
  obtain ⟨rfl, rfl, rfl⟩ := trodAll_nil r1
  obtain rfl : args = #[v0, v1] := by cases args; simp_all
  obtain ⟨rfl, rfl⟩ := trodVars_none hV
  obtain ⟨ao0, n0, cap0, rfl⟩ := okWide_slice Try.underlying22 (hval 0 22 v0 rfl rfl)
  have k0 := h0
  have lt0 : ∀ x ∈ p0, x.block < W.heap.size := by obtain ⟨m, hm⟩ := k0; exact DataW.trod_lt m _ _ _ hm
  obtain ⟨hn0, P0, hP0⟩ : (n0 ≤ maxLen ∧ Sl ao0 cap0 n0) ∧ ∃ P, PgsR (fun _ => True) W ao0 n0 P := by
    obtain ⟨fuel, hf⟩ := k0
    exact open_pages hf (fun n hn => by simpa using List.all_eq_true.1 hsz _ (DataW.weights_mem_each (j := 0) rfl rfl n hn))
  obtain ⟨ao1, n1, cap1, rfl⟩ := okWide_slice Try.underlying22 (hval 1 22 v1 rfl rfl)
  have k1 := h1
  have lt1 : ∀ x ∈ p1, x.block < W.heap.size := by obtain ⟨m, hm⟩ := k1; exact DataW.trod_lt m _ _ _ hm
  obtain ⟨hn1, P1, hP1⟩ : (n1 ≤ maxLen ∧ Sl ao1 cap1 n1) ∧ ∃ P, PgsR (fun _ => True) W ao1 n1 P := by
    obtain ⟨fuel, hf⟩ := k1
    exact open_pages hf (fun n hn => by simpa using List.all_eq_true.1 hsz _ (DataW.weights_mem_each (j := 1) rfl rfl n hn))
  clear hA0 hval0
  refine (walk W ao0 n0 cap0 P0 hn0 hP0 ao1 n1 cap1 P1 hn1 hP1).mono fun e W' ⟨he, hg⟩ => ?_
  subst he
  exact ⟨_, rfl, _, _, _, [], _, [], hW', trodAll_mk1 (shut_bool Try.underlying4 _), (trodAll_cons_mk (Below.trod laidOut (by kernel_rfl) (of_decide_eq_true (by kernel_rfl)) k0 hg lt0) (trodAll_cons_mk (Below.trod laidOut (by kernel_rfl) (of_decide_eq_true (by kernel_rfl)) k1 hg lt1) trodAll_mk0)), rfl, hg.frame _, fun h => by cases h⟩

theorem proved : Rows.DiffLeastSaid :=
  OpenClaim.holds_of_wide 4 Try.f4 rfl rfl rfl rfl rfl rfl rfl ⟨rfl, rfl, rfl, rfl, rfl⟩ rfl rfl rfl rfl rfl (by kernel_rfl) Try.func4 (by kernel_rfl)
    (of_decide_eq_true (by kernel_rfl)) (by unfold Func.isWrapper; first | (rw [if_pos (by decide +kernel)]; kernel_rfl) | (rw [if_neg (by decide +kernel)]; exact ⟨rfl, rfl⟩))
    (fun os started H enc _ => lifted os started H enc)
#print axioms proved
end Go.Proofs.Ytoodhpgaikmalaa.diffLeast
