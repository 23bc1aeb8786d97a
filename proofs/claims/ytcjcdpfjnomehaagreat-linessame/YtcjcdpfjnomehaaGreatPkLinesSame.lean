/-
  For any two lines the statement LinesSame of the program returns true: two lines are the same just if all that they have is; a copy is the same, and goes its own way. No condition besides the statement's own.
-/
import Derived.Test.YtcjcdpfjnomehaaGreatRows
import Derived.WalkKit
import Derived.ProofKit
import Derived.OpenShut
import Derived.SizedLaws
import Derived.ShutString
import Derived.ChangeOld
import Derived.Below
import Derived.Test.YtcjcdpfjnomehaaGreatPk42
import Derived.Test.YtcjcdpfjnomehaaGreatPk29
import Derived.Test.YtcjcdpfjnomehaaGreatPk38
import Derived.Lib.QuietBelow
import Derived.BigQuiet
import Derived.Deep.DeepCutAuto
import Derived.Deep.RegionHeld3
namespace Go.Proofs.YtcjcdpfjnomehaaGreat.linesSame
open Go.ChangeShapes Go.WideShapes Go.ChangeAt Go.RowKit
open Go.ChangeMaps (open_string shut_string)
set_option linter.unusedVariables false
set_option linter.unusedSimpArgs false
theorem own : ownKnob Tryz.prog.godebug = none := by kernel_rfl
theorem laidOut : laidOutB Tryz.prog = true := by kernel_rfl
set_option maxRecDepth 100000 in
set_option maxHeartbeats 16000000 in
theorem walk (w : World) (x0 : Lne) (hx0 : LneOk x0 ∧ x0.tx.size ≤ 140737488351232) (hp0 : Ru.P2At (fun _ => True) w x0.ra x0.rn x0.L x0.Y) (x1 : Lne) (hx1 : LneOk x1 ∧ x1.tx.size ≤ 140737488351232) (hp1 : Ru.P2At (fun _ => True) w x1.ra x1.rn x1.L x1.Y) :
    Calls Tryz.prog 6 #[x0.val, x1.val] w fun e w' => e = .returned (.bool true) ∧ Below w.heap.size w w' := by
  obtain ⟨W0, hW0, hz, hA0, hA1, hB0⟩ := ln2_at w x0 x1
  have HA := boxed (awake10_any W0)
  have HP0 := boxed hp0
  have HP1 := boxed hp1
  have HW := boxed (And.intro hA0 (And.intro hA1 hB0))
  have HX0 := boxed hx0
  have HX1 := boxed hx1
  have hm0 := hx0.1.rn.1
  have hm1 := hx1.1.rn.1
  unfold maxLen at hm0 hm1
  clear hp0 hp1 hA0 hA1 hB0 hx0 hx1
  unfold Lne.val
  by_cases g0 : 50 < x0.rn
  · have t1 : decide ((50 : Int) < (x0.rn : Int)) = true := decide_eq_true (by omega)
    clear g0
    go_enter Tryz.func6, Tryz.ntmps6
    go_wp2_with fail
    refine HA.out.mono ?_
    rintro e w1 ⟨rfl, hb1⟩
    have HB1 := boxed (below_step HW.out.2.2 (Nat.le_refl _) hb1)
    obtain ⟨-, a1, -⟩ := (HW.out.1.next hb1).cells
    clear hb1 hW0
    go_wp2_with fail
    go_ret
    exact ⟨rfl, HB1.out⟩
  have t1 : decide ((50 : Int) < (x0.rn : Int)) = false := decide_eq_false (by omega)
  by_cases g1 : 50 < x1.rn
  · have t2 : decide ((50 : Int) < (x1.rn : Int)) = true := decide_eq_true (by omega)
    clear g1
    go_enter Tryz.func6, Tryz.ntmps6
    go_wp2_with fail
    refine HA.out.mono ?_
    rintro e w1 ⟨rfl, hb1⟩
    have HB1 := boxed (below_step HW.out.2.2 (Nat.le_refl _) hb1)
    obtain ⟨-, a1, -⟩ := (HW.out.1.next hb1).cells
    obtain ⟨-, b1, -⟩ := (HW.out.2.1.next hb1).cells
    clear hb1 hW0
    go_wp2_with fail
    go_ret
    exact ⟨rfl, HB1.out⟩
  have t2 : decide ((50 : Int) < (x1.rn : Int)) = false := decide_eq_false (by omega)
  have hn0 : x0.rn ≤ 50 := by omega
  have hn1 : x1.rn ≤ 50 := by omega
  clear g0 g1 hm0 hm1
  go_enter Tryz.func6, Tryz.ntmps6
  go_wp2_with fail
  refine HA.out.mono ?_
  rintro e w1 ⟨rfl, hb1⟩
  have HB1 := boxed hb1
  obtain ⟨-, a1, -⟩ := (HW.out.1.next hb1).cells
  obtain ⟨-, b1, -⟩ := (HW.out.2.1.next hb1).cells
  clear hb1 hW0
  go_wp2_with fail
  clear a1 b1 t1 t2
  go_loopw [5] (fun vi wr => ∃ i : Nat, i ≤ x0.rn ∧ vi = .int .i64 (i : Nat) ∧ Box (∀ j, j < i → x0.L j ≤ 1099511627776) ∧ Box (Below W0.heap.size W0 wr)) (fun vi _ => x0.rn - (intOf vi).toNat)
  case atStart => exact ⟨0, Nat.zero_le _, rfl, boxed (fun j hj => by omega), HB1⟩
  case round =>
    obtain ⟨i, hi, rfl, HS0, HB⟩ := hrel
    obtain ⟨-, a1, -⟩ := (HW.out.1.next HB.out).cells
    by_cases hlt : i < x0.rn
    · obtain ⟨b, off, hao, -⟩ := HP0.out.form (by omega)
      have hpp := HP0.out.below (below_step HW.out.2.2 (Nat.le_refl _) HB.out)
      rw [hao] at hpp a1
      obtain ⟨e0, e1⟩ := hpp.get i hlt
      have HBF := boxed (below_step HW.out.2.2 (Nat.le_refl _) HB.out)
      clear hpp hao e1
      by_cases cl : 1099511627776 < x0.L i
      · have tl : decide ((1099511627776 : Int) < x0.L i) = true := decide_eq_true cl
        generalize x0.L i = l at *
        go_wp2
        go_ret
        exact ⟨rfl, HBF.out⟩
      · have tl : decide ((1099511627776 : Int) < x0.L i) = false := decide_eq_false cl
        have HS2 : Box (∀ j, j < i + 1 → x0.L j ≤ 1099511627776) := boxed (fun j hj => by
          by_cases d : j = i
          · subst d; omega
          · exact HS0.out j (by omega))
        clear HS0 cl
        generalize x0.L i = l at *
        go_wp2_with fail
        go_roundw
        case rel => exact ⟨i + 1, by omega, by go_num, HS2, HB⟩
        case measure => simp [intOf]; omega
    · have hi0 : i = x0.rn := by omega
      subst hi0
      have HB2 := HB
      clear HB
      go_wp2_with fail
      clear a1
      go_loopw [6] (fun vi wr => ∃ i : Nat, i ≤ x1.rn ∧ vi = .int .i64 (i : Nat) ∧ Box (∀ j, j < i → x1.L j ≤ 1099511627776) ∧ Box (Below W0.heap.size W0 wr)) (fun vi _ => x1.rn - (intOf vi).toNat)
      case atStart => exact ⟨0, Nat.zero_le _, rfl, boxed (fun j hj => by omega), HB2⟩
      case round =>
        obtain ⟨i, hi, rfl, HS1, HB⟩ := hrel
        obtain ⟨-, b1, -⟩ := (HW.out.2.1.next HB.out).cells
        by_cases hlt : i < x1.rn
        · obtain ⟨b, off, hao, -⟩ := HP1.out.form (by omega)
          have hpp := HP1.out.below (below_step HW.out.2.2 (Nat.le_refl _) HB.out)
          rw [hao] at hpp b1
          obtain ⟨e0, e1⟩ := hpp.get i hlt
          have HBF := boxed (below_step HW.out.2.2 (Nat.le_refl _) HB.out)
          clear hpp hao e1
          by_cases cl : 1099511627776 < x1.L i
          · have tl : decide ((1099511627776 : Int) < x1.L i) = true := decide_eq_true cl
            generalize x1.L i = l at *
            go_wp2
            go_ret
            exact ⟨rfl, HBF.out⟩
          · have tl : decide ((1099511627776 : Int) < x1.L i) = false := decide_eq_false cl
            have HS2 : Box (∀ j, j < i + 1 → x1.L j ≤ 1099511627776) := boxed (fun j hj => by
              by_cases d : j = i
              · subst d; omega
              · exact HS1.out j (by omega))
            clear HS1 cl
            generalize x1.L i = l at *
            go_wp2_with fail
            go_roundw
            case rel => exact ⟨i + 1, by omega, by go_num, HS2, HB⟩
            case measure => simp [intOf]; omega
        · have hi0 : i = x1.rn := by omega
          subst hi0
          go_upto_region 15 with (fail)
          clear b1
          obtain ⟨a0, a1, a2, a3, a4, a5, a6, a7, a8⟩ := (HW.out.1.next HB.out).cells
          obtain ⟨b0, b1, b2, b3, b4, b5, b6, b7, b8⟩ := (HW.out.2.1.next HB.out).cells
          have hzr : W0.heap.size ≤ wr.heap.size := HB.out.size
          have q1 : w.heap.size < wr.heap.size := by omega
          have q2 : w.heap.size ≠ wr.heap.size := by omega
          have q3 : w.heap.size + 1 < wr.heap.size := by omega
          have q4 : w.heap.size + 1 ≠ wr.heap.size := by omega
          have q5 : w.heap.size ≠ wr.heap.size + 1 := by omega
          have q6 : w.heap.size + 1 ≠ wr.heap.size + 1 := by omega
          go_cut [7, 8] (fun s7 s8 wx => ∃ p q, s7 = .pointer (some ⟨p, 0, none⟩) ∧ s8 = .pointer (some ⟨q, 0, none⟩) ∧ (p ≠ q ∧ wr.heap.size ≤ p ∧ wr.heap.size ≤ q) ∧ Box (LnB wx p x0) ∧ Box (LnB wx q x1) ∧ Box (Below wr.heap.size wr wx))
          case first =>
            have L1 := boxed (laid2 wr (.cells #[.string x0.tx, .slice x0.ra x0.rn x0.rc, .int .i64 x0.num, .int .i64 x0.den, .int .i64 x0.h, .bool x0.hy, .int .i64 x0.y, .bool x0.bg, .bool x0.en] 59) (.cells #[.string x1.tx, .slice x1.ra x1.rn x1.rc, .int .i64 x1.num, .int .i64 x1.den, .int .i64 x1.h, .bool x1.hy, .int .i64 x1.y, .bool x1.bg, .bool x1.en] 59))
            have L2 := boxed (laid2 wr (.cells #[.string x1.tx, .slice x1.ra x1.rn x1.rc, .int .i64 x1.num, .int .i64 x1.den, .int .i64 x1.h, .bool x1.hy, .int .i64 x1.y, .bool x1.bg, .bool x1.en] 59) (.cells #[.string x0.tx, .slice x0.ra x0.rn x0.rc, .int .i64 x0.num, .int .i64 x0.den, .int .i64 x0.h, .bool x0.hy, .int .i64 x0.y, .bool x0.bg, .bool x0.en] 59))
            go_region
            · go_wp2_with fail
              go_meet
              case rel => exact ⟨_, _, rfl, rfl, ⟨by omega, by omega, by omega⟩, boxed L1.out.1, boxed L1.out.2.1, boxed L1.out.2.2.1.drew⟩
            · go_wp2_with fail
              go_meet
              case rel => exact ⟨_, _, rfl, rfl, ⟨by omega, by omega, by omega⟩, boxed L2.out.2.1, boxed L2.out.1, boxed L2.out.2.2.1.drew⟩
          case rest =>
            obtain ⟨p, q, rfl, rfl, hpq, HX, HY, HBc⟩ := hcut
            obtain ⟨hne, hp, hq⟩ := hpq
            clear a0 a1 a2 a3 a4 a5 a6 a7 a8 b0 b1 b2 b3 b4 b5 b6 b7 b8 q1 q2 q3 q4 q5 q6
            have HBW := boxed (below_step HB.out (Nat.le_refl _) HBc.out)
            have hp0 : W0.heap.size ≤ p := by omega
            have hq0 : W0.heap.size ≤ q := by omega
            have hne2 : q ≠ p := fun h => hne h.symm
            have HC : Box (∀ W, Below W0.heap.size W0 W → W.cell? ⟨w.heap.size, 1, none⟩ = some (.slice x0.ra x0.rn x0.rc) ∧ W.cell? ⟨w.heap.size + 1, 1, none⟩ = some (.slice x1.ra x1.rn x1.rc)) := boxed (fun W hb => ⟨(HW.out.1.next hb).cells.2.1, (HW.out.2.1.next hb).cells.2.1⟩)
            have HM0 := boxed (fun W (hb : Below wc.heap.size wc W) => Ru.merged_any W x0.ra x0.rn x0.rc x0.L x0.Y (HP0.out.below (below_step HW.out.2.2 (Nat.le_refl _) (below_step HBW.out (Nat.le_refl _) hb))) (by omega) HS0.out)
            have HM1 := boxed (fun W (hb : Below wc.heap.size wc W) => Ru.merged_any W x1.ra x1.rn x1.rc x1.L x1.Y (HP1.out.below (below_step HW.out.2.2 (Nat.le_refl _) (below_step HBW.out (Nat.le_refl _) hb))) (by omega) HS1.out)
            have HD0 : Box (Below wc.heap.size wc wc.drew) := boxed (Below.refl _ wc).drew
            obtain ⟨a1, b1⟩ := HC.out _ HBW.out
            go_upto_region 16 with (fail)
            go_region_held3 (fun W => W.cell? ⟨w.heap.size, 1, none⟩ = some (.slice x0.ra x0.rn x0.rc) ∧ W.cell? ⟨w.heap.size + 1, 1, none⟩ = some (.slice x1.ra x1.rn x1.rc))
              (first
                | with_reducible exact HC.out _ (below_step HBW.out (Nat.le_refl _) HD0.out)
                | with_reducible exact HC.out _ (below_step HBW.out (Nat.le_refl _) HD3.out)
                | with_reducible exact HC.out _ (below_step HBW.out (Nat.le_refl _) HD4.out)
                | with_reducible exact HC.out _ ((below_step HBW.out (Nat.le_refl _) HD4.out).setCell (p := ⟨p, 1, none⟩) hp0 _)
                | with_reducible exact HC.out _ (((below_step HBW.out (Nat.le_refl _) HD4.out).setCell (p := ⟨p, 1, none⟩) hp0 _).setCell (p := ⟨q, 1, none⟩) hq0 _))
              (first
                | (go_at_call 28; refine (HM0.out _ HD0.out).mono ?_; rintro e w3 ⟨v3, rfl, hv3, hb3⟩; clear HM0; obtain ⟨ao3, cp3, rfl⟩ := own_shape hv3; have HV3 := boxed hv3; have HD3 := boxed (below_step HD0.out (Nat.le_refl _) hb3); clear hv3 hb3)
                | (go_at_call 28; refine (HM1.out _ HD3.out).mono ?_; rintro e w4 ⟨v4, rfl, hv4, hb4⟩; clear HM1; obtain ⟨ao4, cp4, rfl⟩ := own_shape hv4; have HV4 := boxed (And.intro (owns_below HV3.out hb4) hv4); have HD4 := boxed (below_step HD3.out (Nat.le_refl _) hb4); obtain ⟨⟨-, m1, -⟩, -, z1, -⟩ := cells9 (HX.out.next HD4.out); obtain ⟨⟨-, m2, -⟩, -, z2, -⟩ := cells9 (HY.out.next HD4.out); clear hv4 hb4))
            obtain ⟨W5, hW5⟩ : ∃ W5, (w4.setCell ⟨p, 1, none⟩ (.slice ao3 (Ru.enc (Ru.exr x0.L x0.Y x0.rn)).length cp3)).setCell ⟨q, 1, none⟩ (.slice ao4 (Ru.enc (Ru.exr x1.L x1.Y x1.rn)).length cp4) = W5 := ⟨_, rfl⟩
            have HX5 : Box (LnB W5 p (mrg x0 ao3 cp3)) := boxed (by
              show W5.heap[p]? = some (.cells #[.string x0.tx, .slice ao3 (Ru.enc (Ru.exr x0.L x0.Y x0.rn)).length cp3, .int .i64 x0.num, .int .i64 x0.den, .int .i64 x0.h, .bool x0.hy, .int .i64 x0.y, .bool x0.bg, .bool x0.en] 59 (0, 0))
              rw [← hW5, Below.heap_setCell _ _ _ _ hne]
              exact arr_set _ (HX.out.next HD4.out))
            have HY5 : Box (LnB W5 q (mrg x1 ao4 cp4)) := boxed (by
              have e := HY.out.next HD4.out
              unfold LnB at e
              rw [← Below.heap_setCell w4 ⟨p, 1, none⟩ (.slice ao3 (Ru.enc (Ru.exr x0.L x0.Y x0.rn)).length cp3) q hne2] at e
              show W5.heap[q]? = some (.cells #[.string x1.tx, .slice ao4 (Ru.enc (Ru.exr x1.L x1.Y x1.rn)).length cp4, .int .i64 x1.num, .int .i64 x1.den, .int .i64 x1.h, .bool x1.hy, .int .i64 x1.y, .bool x1.bg, .bool x1.en] 59 (0, 0))
              rw [← hW5]
              exact arr_set _ e)
            have HB5 : Box (Below W0.heap.size W0 W5) := boxed (by rw [← hW5]; exact ((below_step HBW.out (Nat.le_refl _) HD4.out).setCell (p := ⟨p, 1, none⟩) hp0 _).setCell (p := ⟨q, 1, none⟩) hq0 _)
            have hlp := HX.out.lt
            have hlq := HY.out.lt
            have hl3 := HD3.out.size
            have HV5 : Box (W5.ownsRow wc.heap.size 61 2 (.slice ao3 (Ru.enc (Ru.exr x0.L x0.Y x0.rn)).length cp3) (Ru.enc (Ru.exr x0.L x0.Y x0.rn)).length (Ru.rcs (Ru.enc (Ru.exr x0.L x0.Y x0.rn))) ∧ W5.ownsRow w3.heap.size 61 2 (.slice ao4 (Ru.enc (Ru.exr x1.L x1.Y x1.rn)).length cp4) (Ru.enc (Ru.exr x1.L x1.Y x1.rn)).length (Ru.rcs (Ru.enc (Ru.exr x1.L x1.Y x1.rn)))) := boxed (by
              rw [← hW5]
              exact ⟨ownsRow_setCell_below (ownsRow_setCell_below HV4.out.1 (a := ⟨p, 1, none⟩) hlp _) (a := ⟨q, 1, none⟩) hlq _, ownsRow_setCell_below (ownsRow_setCell_below HV4.out.2 (a := ⟨p, 1, none⟩) (by simp only; omega) _) (a := ⟨q, 1, none⟩) (by simp only; omega) _⟩)
            rw [hW5]
            clear hW5 HV4 HV3 HD3 HD4 HD0 HX HY m1 m2 z1 z2 a1 b1 hlp hlq hl3
            have HP50 := boxed (HP0.out.below (below_step HW.out.2.2 (Nat.le_refl _) HB5.out))
            have HP51 := boxed (HP1.out.below (below_step HW.out.2.2 (Nat.le_refl _) HB5.out))
            have hcp := copy10_any (fun _ => True) x0 W5 HP50.out HX0.out.2 (by omega)
            unfold Lne.val at hcp
            obtain ⟨a0, a1, a2, a3, a4, a5, a6, a7, a8⟩ := (HW.out.1.next HB5.out).cells
            go_wp2_with fail
            refine hcp.mono ?_
            rintro e w6 ⟨ao6, cp6, rfl, ho6, hb6⟩
            have HO6 := boxed ho6
            have HB6 := boxed hb6
            clear hcp ho6 hb6 a0 a1 a2 a3 a4 a5 a6 a7 a8
            go_upto_region 18 with (fail)
            obtain ⟨W7, hW7⟩ : ∃ W7, w6.alloc (.cells #[.string x0.tx, .slice ao6 x0.rn cp6, .int .i64 x0.num, .int .i64 x0.den, .int .i64 x0.h, .bool x0.hy, .int .i64 x0.y, .bool x0.bg, .bool x0.en] 59) = W7 := ⟨_, rfl⟩
            have HB7 : Box (Below W5.heap.size W5 W7) := boxed (by rw [← hW7]; exact HB6.out.alloc HB6.out.size _)
            have HC7 : Box (LnB W7 w6.heap.size { x0 with ra := ao6, rc := cp6 }) := boxed (by
              show W7.heap[w6.heap.size]? = some (.cells #[.string x0.tx, .slice ao6 x0.rn cp6, .int .i64 x0.num, .int .i64 x0.den, .int .i64 x0.h, .bool x0.hy, .int .i64 x0.y, .bool x0.bg, .bool x0.en] 59 (0, 0))
              rw [← hW7]
              exact heap_alloc_new w6 _)
            have HO7 : Box (W7.ownsRow W5.heap.size 61 2 (.slice ao6 x0.rn cp6) x0.rn (rvs x0.L x0.Y x0.rn)) := boxed (by rw [← hW7]; exact HO6.out.alloc _)
            rw [hW7]
            clear hW7 HB6 HO6
            have HBW7 := boxed (below_step HB5.out (Nat.le_refl _) HB7.out)
            have HV7 := boxed (And.intro (owns_below HV5.out.1 HB7.out) (owns_below HV5.out.2 HB7.out))
            have HP70 := boxed (HP50.out.below HB7.out)
            have HP71 := boxed (HP51.out.below HB7.out)
            have HP7c : Box (Ru.P2At (fun _ => True) W7 ao6 x0.rn x0.L x0.Y) := boxed ((own_rvs HO7.out (fun i hi => (HP0.out i hi).1)).keep (fun b j u hs hc => ⟨trivial, hc⟩))
            have hc6 := own_capw HO7.out
            have HQ0 := boxed (Ru.enc_ok2 (s := Ru.exr x0.L x0.Y x0.rn) (by have := Ru.exr_len2 x0.L x0.Y x0.rn x0.rn (Nat.le_refl _) HS0.out; omega) (Ru.exr_i64 x0.L x0.Y x0.rn x0.rn (Nat.le_refl _) (fun i hi => (HP0.out i hi).1.2)))
            have HQ1 := boxed (Ru.enc_ok2 (s := Ru.exr x1.L x1.Y x1.rn) (by have := Ru.exr_len2 x1.L x1.Y x1.rn x1.rn (Nat.le_refl _) HS1.out; omega) (Ru.exr_i64 x1.L x1.Y x1.rn x1.rn (Nat.le_refl _) (fun i hi => (HP1.out i hi).1.2)))
            have hec := Ru.exr_count x0.L x0.Y x0.rn
            have CS1 := boxed (fun d os => Calls.regrown_of (w := W7) (d := d) (os := os) (same10_det x0 x1 (HP70.out.below (below_regrown W7 d os)) (HP71.out.below (below_regrown W7 d os)) HX0.out.1.rn.2 HX1.out.1.rn.2))
            have CS2 := boxed (fun d os => Calls.regrown_of (w := W7) (d := d) (os := os) (refsame10_det x0 x1 (owns_below HV7.out.1 (below_regrown W7 d os)) (owns_below HV7.out.2 (below_regrown W7 d os)) HQ0.out HQ1.out (by omega)))
            have CS3 := boxed (fun d os => Calls.regrown_of (w := W7) (d := d) (os := os) (same10_det x0 { x0 with ra := ao6, rc := cp6 } (HP70.out.below (below_regrown W7 d os)) (HP7c.out.below (below_regrown W7 d os)) HX0.out.1.rn.2 hc6))
            have CS4 := boxed (fun d os => Calls.regrown_of (w := W7) (d := d) (os := os) (same10_det { x0 with ra := ao6, rc := cp6 } x0 (HP7c.out.below (below_regrown W7 d os)) (HP70.out.below (below_regrown W7 d os)) hc6 HX0.out.1.rn.2))
            rw [(smB_copy x0 ao6 cp6).1] at CS3
            rw [(smB_copy x0 ao6 cp6).2] at CS4
            simp only [Lne.val, mrg] at CS1 CS2 CS3 CS4
            generalize smB x0 x1 = R at *
            have hRR : (R != R) = false := by simp
            clear hec HQ0 HQ1 HP71 HP7c HV7 HV5 HP50 HP51 hc6
            obtain ⟨a0, a1, a2, a3, a4, a5, a6, a7, a8⟩ := (HW.out.1.next HBW7.out).cells
            have va0 := cell_regrown a0
            have va1 := cell_regrown a1
            have va2 := cell_regrown a2
            have va3 := cell_regrown a3
            have va4 := cell_regrown a4
            have va5 := cell_regrown a5
            have va6 := cell_regrown a6
            have va7 := cell_regrown a7
            have va8 := cell_regrown a8
            clear a0 a1 a2 a3 a4 a5 a6 a7 a8
            obtain ⟨b0, b1, b2, b3, b4, b5, b6, b7, b8⟩ := (HW.out.2.1.next HBW7.out).cells
            have vb0 := cell_regrown b0
            have vb1 := cell_regrown b1
            have vb2 := cell_regrown b2
            have vb3 := cell_regrown b3
            have vb4 := cell_regrown b4
            have vb5 := cell_regrown b5
            have vb6 := cell_regrown b6
            have vb7 := cell_regrown b7
            have vb8 := cell_regrown b8
            clear b0 b1 b2 b3 b4 b5 b6 b7 b8
            obtain ⟨m0, m1, m2, m3, m4, m5, m6, m7, m8⟩ := (HX5.out.next HB7.out).cells
            have vm0 := cell_regrown m0
            have vm1 := cell_regrown m1
            have vm2 := cell_regrown m2
            have vm3 := cell_regrown m3
            have vm4 := cell_regrown m4
            have vm5 := cell_regrown m5
            have vm6 := cell_regrown m6
            have vm7 := cell_regrown m7
            have vm8 := cell_regrown m8
            clear m0 m1 m2 m3 m4 m5 m6 m7 m8
            obtain ⟨n0, n1, n2, n3, n4, n5, n6, n7, n8⟩ := (HY5.out.next HB7.out).cells
            have vn0 := cell_regrown n0
            have vn1 := cell_regrown n1
            have vn2 := cell_regrown n2
            have vn3 := cell_regrown n3
            have vn4 := cell_regrown n4
            have vn5 := cell_regrown n5
            have vn6 := cell_regrown n6
            have vn7 := cell_regrown n7
            have vn8 := cell_regrown n8
            clear n0 n1 n2 n3 n4 n5 n6 n7 n8
            obtain ⟨d0, d1, d2, d3, d4, d5, d6, d7, d8⟩ := HC7.out.cells
            have vd0 := cell_regrown d0
            have vd1 := cell_regrown d1
            have vd2 := cell_regrown d2
            have vd3 := cell_regrown d3
            have vd4 := cell_regrown d4
            have vd5 := cell_regrown d5
            have vd6 := cell_regrown d6
            have vd7 := cell_regrown d7
            have vd8 := cell_regrown d8
            clear d0 d1 d2 d3 d4 d5 d6 d7 d8
            simp only [mrg] at vm0 vm1 vm2 vm3 vm4 vm5 vm6 vm7 vm8 vn0 vn1 vn2 vn3 vn4 vn5 vn6 vn7 vn8
            refine wp_region_quiet_below (by kernel_rfl) (by kernel_rfl) ?_
            repeat (go_big_quiet_step (first | (with_reducible exact CS1.out _ _) | (with_reducible exact CS2.out _ _) | (with_reducible exact CS3.out _ _) | (with_reducible exact CS4.out _ _)))
            refine wpQuiet_nil ?_
            intro _ hw'
            obtain ⟨⟨dq, osq⟩, hw''⟩ := hw'
            subst hw''
            have HB8 := boxed (below_regrown W7 dq osq)
            clear va0 va1 va2 va3 va4 va5 va6 va7 va8 vb0 vb1 vb2 vb3 vb4 vb5 vb6 vb7 vb8 vm0 vm1 vm2 vm3 vm4 vm5 vm6 vm7 vm8 vn0 vn1 vn2 vn3 vn4 vn5 vn6 vn7 vn8 vd0 vd1 vd2 vd3 vd4 vd5 vd6 vd7 vd8 CS1 CS2 CS3 CS4 hRR
            generalize Go.Sort.grow (redrawn W7 dq) osq = w8 at *
            have HBF := boxed (below_step HW.out.2.2 (Nat.le_refl _) (below_step HBW7.out (Nat.le_refl _) HB8.out))
            have HBW8 := boxed (below_step HBW7.out (Nat.le_refl _) HB8.out)
            obtain ⟨-, d1, -⟩ := (HC7.out.next HB8.out).cells
            simp only at d1
            by_cases hrn : x0.rn = 0
            · have t5 : decide ((0 : Int) < (x0.rn : Int)) = false := decide_eq_false (by omega)
              have t6 : decide (0 < x0.rn) = false := decide_eq_false (by omega)
              clear hrn
              go_wp2_with fail
              go_ret
              exact ⟨rfl, HBF.out⟩
            · have t5 : decide ((0 : Int) < (x0.rn : Int)) = true := decide_eq_true (by omega)
              obtain ⟨b, off, hao, -⟩ := HP0.out.form (by omega)
              have hpw := HP0.out
              have hp8 := hpw.below HBF.out
              obtain ⟨-, a1, -⟩ := (HW.out.1.next HBW8.out).cells
              rw [hao] at hpw hp8 a1
              have hbw := World.block_lt_of_cell? w _ (hpw.get 0 (by omega)).1
              simp only at hbw
              obtain ⟨e0, e1⟩ := hp8.get 0 (by omega)
              simp only [Nat.zero_mul, Nat.add_zero] at e0 e1
              have ho8 := owns_below HO7.out HB8.out
              obtain ⟨g, cap', eg⟩ := Ru.ownsRow_form ho8 (by omega)
              injection eg with eg1 eg2 eg3
              subst eg1
              have hg := ho8.lt g rfl
              have hc0 := ho8.cellAt 1 (by omega)
              rw [(by simpa using (rvs_get x0.L x0.Y x0.rn 0 (by omega)).2 : (rvs x0.L x0.Y x0.rn)[1]? = some (.int .i64 (x0.Y 0)))] at hc0
              have hf0 := ho8.frozenAt 1
              have hg5 : W0.heap.size ≤ W5.heap.size := HB5.out.size
              have hs7 : w6.heap.size < w8.heap.size := (HC7.out.next HB8.out).lt
              have s1 : b < w8.heap.size := by have := HBF.out.size; omega
              have s2 : b ≠ w8.heap.size := by omega
              have s3 : g < w8.heap.size := hg.2
              have s4 : g ≠ w8.heap.size := by omega
              have s5 : w6.heap.size ≠ w8.heap.size := by omega
              have s6 : w.heap.size ≠ w8.heap.size := by omega
              have s7 : w.heap.size < w8.heap.size := by omega
              have s8 : (0 : Int) < (x0.rn : Int) := by omega
              have s9 : 0 < x0.rn := by omega
              have sa : b ≠ g := by omega
              have sb : g ≠ b := by omega
              have sc : w.heap.size ≠ g := by omega
              have sd : w8.heap.size ≠ g := by omega
              have hcap : x0.rn ≤ x0.rc := HX0.out.1.rn.2
              have hcap2 := own_capw ho8
              generalize hL0 : x0.L 0 = l0 at *
              generalize hY0 : x0.Y 0 = y0 at *
              clear hL0 hY0
              obtain ⟨W9, hW9⟩ : ∃ W9, (w8.setCell ⟨g, 1, none⟩ (.int .i64 (-5))).alloc (.cells #[.int .i64 l0, .int .i64 y0] 61) = W9 := ⟨_, rfl⟩
              have HB9 : Box (Below w.heap.size w W9) := boxed (by rw [← hW9]; exact (HBF.out.setCell (p := ⟨g, 1, none⟩) (by simp only; omega) _).alloc (by simp; omega) _)
              have hsz9 : (w8.setCell ⟨g, 1, none⟩ (.int .i64 (-5))).heap.size = w8.heap.size := by simp
              have F0 : W9.cell? ⟨w8.heap.size, 0, none⟩ = some (.int .i64 l0) ∧ W9.cell? ⟨w8.heap.size, 1, none⟩ = some (.int .i64 y0) := by
                have e := heap_alloc_new (w8.setCell ⟨g, 1, none⟩ (.int .i64 (-5))) (.cells #[.int .i64 l0, .int .i64 y0] 61)
                rw [hW9, hsz9] at e
                exact ⟨by simp [World.cell?, e], by simp [World.cell?, e]⟩
              have F1 : ∀ o v, w8.cell? ⟨b, o, none⟩ = some v → W9.cell? ⟨b, o, none⟩ = some v := fun o v h => by
                have e := Below.heap_alloc (w8.setCell ⟨g, 1, none⟩ (.int .i64 (-5))) (.cells #[.int .i64 l0, .int .i64 y0] 61) b (by rw [hsz9]; exact s1)
                rw [Below.heap_setCell _ ⟨g, 1, none⟩ (.int .i64 (-5)) b sa, hW9] at e
                exact (World.cell?_of_block (a := ⟨b, o, none⟩) e).trans h
              have F2 : W9.cell? ⟨w.heap.size, 1, none⟩ = some (.slice (some ⟨b, off, none⟩) x0.rn x0.rc) := by
                have e := Below.heap_alloc (w8.setCell ⟨g, 1, none⟩ (.int .i64 (-5))) (.cells #[.int .i64 l0, .int .i64 y0] 61) w.heap.size (by rw [hsz9]; exact s7)
                rw [Below.heap_setCell _ ⟨g, 1, none⟩ (.int .i64 (-5)) w.heap.size sc, hW9] at e
                exact (World.cell?_of_block (a := ⟨w.heap.size, 1, none⟩) e).trans a1
              have F3 := F1 _ _ e0
              have F4 := F1 _ _ e1
              obtain ⟨F5, F6⟩ := F0
              have hnq := Ru.neqRun
              have hgu := Ru.guardRun
              clear F1 hp8 hpw ho8 hg hbw hg5
              replace hW9 := boxed hW9
              go_upto_region 23 with (fail)
              rw [hW9.out]
              clear e0 e1 a1 d1 hc0 hf0 s1 s2 s3 s4 s5 s6 s7 sa sb sc sd
              go_quiet (fail)
              have HB10 := boxed (HB9.out.trans (bel_drewN _ _ nq))
              go_wp2_with fail
              go_ret
              exact ⟨rfl, HB10.out⟩
set_option maxRecDepth 100000 in
theorem lifted (os : Os) (started : os.Started) (H : Type) (enc : TypeId × Value → H) :
    ReturnsInHanded {} Tryz.checked os 6 .any (Rows.linesSameSpec.pre6 enc Tryz.prog Tryz.f6 Rows.linesSameRow.domain false) (Rows.linesSameSpec.post enc Tryz.prog Tryz.f6 false true false false) := by
  refine returnsInHanded_of_change_sized (C := Tryz.checked) own started (by kernel_rfl) Tryz.func6
    (ChangeSpec.witness6 (enc := enc) (C := Tryz.checked) false ⟨#[], #[.agg #[.string ByteArray.empty, .slice none 0 0, .int .i64 0, .int .i64 0, .int .i64 0, .bool false, .int .i64 0, .bool false, .bool false], .agg #[.string ByteArray.empty, .slice none 0 0, .int .i64 0, .int .i64 0, .int .i64 0, .bool false, .int .i64 0, .bool false, .bool false]], []⟩ 8 (by kernel_rfl) (by kernel_rfl) (by kernel_rfl) (by kernel_rfl)) ?_
  intro W base args ds gs before hval0 hW hcnd hsz0 _
  have hval : ∀ (j : Nat) t v, Tryz.f6.params[j]? = some t → args[j]? = some v → Value.okWide Tryz.prog W .any base t v := hval0
  have hsz : (DataW.weightsEach Tryz.prog (Tryz.f6.params.toList ++ Rows.linesSameSpec.plain.varTypes Tryz.prog) (ds ++ gs)).all (· ≤ reachBytes) = true := hsz0
  have hW' := hW
  obtain ⟨p, q, hA0, hV, rfl, hfz, hnd⟩ := hW
  have hA : DataW.TrodAll enc Tryz.prog W 0 (fun _ => true) true Tryz.f6.params.toList args.toList ds p := hA0
  rw [Tryz.params6] at hA hval hsz
  obtain ⟨v0, vs0, d0, ds0, p0, q0, hargs, rfl, rfl, h0, r0⟩ := trodAll_cons hA
  obtain ⟨v1, vs1, d1, ds1, p1, q1, rfl, rfl, rfl, h1, r1⟩ := trodAll_cons r0
  obtain ⟨rfl, rfl, rfl⟩ := trodAll_nil r1
  obtain rfl : args = #[v0, v1] := by cases args; simp_all
  obtain ⟨rfl, rfl⟩ := trodVars_none hV
  have k0 := h0
  have lt0 : ∀ x ∈ p0, x.block < W.heap.size := by obtain ⟨m, hm⟩ := k0; exact DataW.trod_lt m _ _ _ hm
  obtain ⟨x0, rfl, hx0, hp0⟩ : ∃ x : Lne, v0 = x.val ∧ (LneOk x ∧ x.tx.size ≤ 140737488351232) ∧ Ru.P2At (fun _ => True) W x.ra x.rn x.L x.Y := by
    obtain ⟨fuel, hf⟩ := k0
    exact line_value2 hf (fun n hn => by simpa using List.all_eq_true.1 hsz _ (DataW.weights_mem_each (j := 0) rfl rfl n hn))
  have k1 := h1
  have lt1 : ∀ x ∈ p1, x.block < W.heap.size := by obtain ⟨m, hm⟩ := k1; exact DataW.trod_lt m _ _ _ hm
  obtain ⟨x1, rfl, hx1, hp1⟩ : ∃ x : Lne, v1 = x.val ∧ (LneOk x ∧ x.tx.size ≤ 140737488351232) ∧ Ru.P2At (fun _ => True) W x.ra x.rn x.L x.Y := by
    obtain ⟨fuel, hf⟩ := k1
    exact line_value2 hf (fun n hn => by simpa using List.all_eq_true.1 hsz _ (DataW.weights_mem_each (j := 1) rfl rfl n hn))
  clear hA0 hval0
  refine (walk W x0 hx0 hp0 x1 hx1 hp1).mono fun e W' ⟨he, hg⟩ => ?_
  subst he
  exact ⟨_, rfl, _, _, _, [], _, [], hW', trodAll_mk1 (shut_bool Tryz.underlying4 _), (trodAll_cons_mk (Below.trod laidOut (by kernel_rfl) (of_decide_eq_true (by kernel_rfl)) k0 hg lt0) (trodAll_cons_mk (Below.trod laidOut (by kernel_rfl) (of_decide_eq_true (by kernel_rfl)) k1 hg lt1) trodAll_mk0)), rfl, hg.frame _, fun h => by cases h⟩
theorem proved : Rows.LinesSameSaid :=
  OpenClaim.holds_of_wide 6 Tryz.f6 rfl rfl rfl rfl rfl rfl rfl ⟨rfl, rfl, rfl, rfl, rfl⟩ rfl rfl rfl rfl rfl (by kernel_rfl) Tryz.func6 (by kernel_rfl)
    (of_decide_eq_true (by kernel_rfl)) (by unfold Func.isWrapper; first | (rw [if_pos (by decide +kernel)]; kernel_rfl) | (rw [if_neg (by decide +kernel)]; exact ⟨rfl, rfl⟩))
    (fun os started H enc _ => lifted os started H enc)
#print axioms proved
end Go.Proofs.YtcjcdpfjnomehaaGreat.linesSame
