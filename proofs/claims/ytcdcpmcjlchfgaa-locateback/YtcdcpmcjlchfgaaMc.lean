/-
  The first fault of a style, as the document's Style answers it.
-/
import Derived.Test.YtcdcpmcjlchfgaaMb
namespace Go.Proofs.Ytcdcpmcjlchfgaa
open Go.RowKit
set_option linter.unusedSimpArgs false
set_option linter.unusedVariables false

theorem fits0_any (n : Int) (w : World) :
    Calls Try.prog 68 #[.int .i64 n, .int .i64 0] w fun e w' => e = .returned (.bool (un n)) ∧ w' = w := fits_any n 0 w
theorem fits1_any (n : Int) (w : World) :
    Calls Try.prog 68 #[.int .i64 n, .int .i64 1] w fun e w' => e = .returned (.bool (decide (1 ≤ n) && decide (n ≤ 1048576))) ∧ w' = w := fits_any n 1 w

theorem cell_first (w : World) (cs : Array Value) (t : TypeId) (i : Nat) : (w.alloc (.cells cs t)).cell? ⟨w.heap.size, i, none⟩ = cs[i]? := by
  rw [cell_of_row _ _ _ _ _ _ (heap_alloc_new w (.cells cs t))]
theorem cell_second (w : World) (A : Obj) (cs : Array Value) (t : TypeId) (i : Nat) : ((w.alloc A).alloc (.cells cs t)).cell? ⟨w.heap.size + 1, i, none⟩ = cs[i]? := by
  have := cell_first (w.alloc A) cs t i
  rw [World.size_alloc] at this
  exact this

def five (a b c d e : Int) : Nat → Int
  | 0 => a
  | 1 => b
  | 2 => c
  | 3 => d
  | _ => e

set_option maxRecDepth 100000 in
set_option maxHeartbeats 4000000 in
theorem refstyle_any (S : Nat → Prop) (s : Sty) (w : World) (hs : StyOk s) (hr : RgsAt S w s.ra s.rn s.R) :
    Calls Try.prog 52 #[s.val] w fun e w' => e = .returned (.int .i64 (flt s)) ∧ Below w.heap.size w w' := by
  have hn : s.rn * 24 ≤ 140737488351232 := by have := hs.rn; omega
  have HR := boxed hr
  have HF : Box (flt s = if msr s = true then (if 64 < s.rn then 42 else rfs s.R s.rn) else 41) := boxed rfl
  have HM : Box (msr s = (decide (1 ≤ s.h) && decide (s.h ≤ 1048576) && un s.sp && un s.st && un s.sh && un s.hy && un s.ot && decide (s.sh ≤ s.sp))) := boxed rfl
  clear hr hs
  unfold Sty.val
  generalize flt s = V at *
  generalize msr s = M at *
  obtain ⟨h, sp, st, sh, hy, ot, ra, rn, rc, kp, R⟩ := s
  simp only at *
  go_enter Try.func52, Try.ntmps52
  go_wp2
  go_loop [4] (fun t => ∃ k : Nat, k ≤ 5 ∧ t = .int .i64 (k : Int) ∧ Box (∀ j, j < k → un (five sp st sh hy ot j) = true)) (fun t => 5 - (intOf t).toNat)
  case atStart => exact ⟨0, by omega, rfl, boxed (fun j hj => by omega)⟩
  case round =>
    obtain ⟨k, hk, rfl, HU⟩ := hrel
    by_cases hlt : k < 5
    · have hcell : (((w.alloc (.cells #[.int .i64 h, .int .i64 sp, .int .i64 st, .int .i64 sh, .int .i64 hy, .int .i64 ot, .slice ra rn rc, .bool kp] 73)).alloc (.cells #[.int .i64 sp, .int .i64 st, .int .i64 sh, .int .i64 hy, .int .i64 ot] 3)).cell? ⟨w.heap.size + 1, k, none⟩ = some (.int .i64 (five sp st sh hy ot k))) := by
        refine (cell_second _ _ _ _ _).trans ?_
        rcases (show k = 0 ∨ k = 1 ∨ k = 2 ∨ k = 3 ∨ k = 4 by omega) with rfl | rfl | rfl | rfl | rfl <;> rfl
      have HV41 : Box (un (five sp st sh hy ot k) = false → V = 41) := boxed (by
        intro g
        rw [HF.out, HM.out, if_neg]
        rcases (show k = 0 ∨ k = 1 ∨ k = 2 ∨ k = 3 ∨ k = 4 by omega) with rfl | rfl | rfl | rfl | rfl <;> simp [five] at g <;> simp [g])
      cases g : un (five sp st sh hy ot k) with
      | false =>
        generalize five sp st sh hy ot k = X at *
        go_wp2_with (go_at_call 68; refine (fits0_any _ _).mono ?_; rintro e w' ⟨rfl, hw'⟩; subst w')
        go_ret
        exact ⟨ret_int (HV41.out g).symm, by go_grown⟩
      | true =>
        have HU' : Box (∀ j, j < k + 1 → un (five sp st sh hy ot j) = true) := boxed (by
          intro j hj
          by_cases c : j = k
          · subst c; exact g
          · exact HU.out j (by omega))
        generalize five sp st sh hy ot k = X at *
        go_wp2_with (go_at_call 68; refine (fits0_any _ _).mono ?_; rintro e w' ⟨rfl, hw'⟩; subst w')
        go_round
        case rel => exact ⟨k + 1, by omega, by go_num, HU'⟩
        case measure => simp [intOf]; omega
    · have e : k = 5 := by omega
      subst e
      have g1 : Box (un sp = true) := boxed (HU.out 0 (by omega))
      have g2 : Box (un st = true) := boxed (HU.out 1 (by omega))
      have g3 : Box (un sh = true) := boxed (HU.out 2 (by omega))
      have g4 : Box (un hy = true) := boxed (HU.out 3 (by omega))
      have g5 : Box (un ot = true) := boxed (HU.out 4 (by omega))
      cases g6 : (decide (1 ≤ h) && decide (h ≤ 1048576)) with
      | false =>
        have HV : Box (V = 41) := boxed (by rw [HF.out, HM.out, g6]; simp)
        go_wp2_with (go_at_call 68; refine (fits1_any _ _).mono ?_; rw [g6]; rintro e w' ⟨rfl, hw'⟩; subst w')
        go_ret
        exact ⟨ret_int HV.out.symm, by go_grown⟩
      | true =>
        by_cases g7 : sp < sh
        · have HV : Box (V = 41) := boxed (by rw [HF.out, HM.out, if_neg]; simp; intros; omega)
          go_wp2_with (go_at_call 68; refine (fits1_any _ _).mono ?_; rw [g6]; rintro e w' ⟨rfl, hw'⟩; subst w')
          go_ret
          exact ⟨ret_int HV.out.symm, by go_grown⟩
        have HMt : Box (M = true) := boxed (by rw [HM.out, g6, g1.out, g2.out, g3.out, g4.out, g5.out]; simp; omega)
        by_cases g8 : 64 < rn
        · have HV : Box (V = 42) := boxed (by rw [HF.out, HMt.out, if_pos rfl, if_pos g8])
          go_wp2_with (go_at_call 68; refine (fits1_any _ _).mono ?_; rw [g6]; rintro e w' ⟨rfl, hw'⟩; subst w')
          go_ret
          exact ⟨ret_int HV.out.symm, by go_grown⟩
        have HV : Box (V = rfs R rn) := boxed (by rw [HF.out, HMt.out, if_pos rfl, if_neg g8])
        clear HF HM HU
        go_wp2_with (go_at_call 68; refine (fits1_any _ _).mono ?_; rw [g6]; rintro e w' ⟨rfl, hw'⟩; subst w')
        go_loopw [5, 6] (fun i _ wr => ∃ k : Nat, k ≤ rn ∧ i = .int .i64 (k : Int) ∧ Box (rfs R k = 0) ∧ Box (Below w.heap.size w wr) ∧ wr.cell? ⟨w.heap.size, 6, none⟩ = some (.slice ra rn rc) ∧ w.heap.size < wr.heap.size) (fun i _ _ => rn - (intOf i).toNat)
        case atStart =>
          refine ⟨0, Nat.zero_le _, rfl, boxed rfl, boxed (by go_grown), ?_, by simp; omega⟩
          exact hold ((Below.refl _ _).alloc (Nat.le_refl _) _) (cell_first _ _ _ _)
        case round =>
          obtain ⟨k, hk, rfl, H0, HB, c6, hsz⟩ := hrel
          have hszn : w.heap.size ≠ wr.heap.size := by omega
          by_cases hlt : k < rn
          · obtain ⟨-, b, off, e, -, c0, c1, c2⟩ := (HR.out.below HB.out) k hlt
            have HP : Box (0 < k → wr.cell? ⟨b, off + (k - 1) * 3 + 1, none⟩ = some (.int .i64 (ahd R k))) := boxed (by
              intro hp
              obtain ⟨-, b', off', e', -, -, c1', -⟩ := (HR.out.below HB.out) (k - 1) (by omega)
              rw [e] at e'
              injection e' with e'
              injection e' with e1 e2
              subst e1; subst e2
              rw [c1']
              unfold ahd
              rw [if_neg (by omega)])
            subst e
            have hbl : b < wr.heap.size := World.block_lt_of_cell? wr _ c0
            have hbn : b ≠ wr.heap.size := by omega
            have HF : Box (rfa R k = if (R k).lo ≤ ahd R k ∨ (R k).hi < (R k).lo ∨ 1114111 < (R k).hi then 42 else if un (R k).wd = true then 0 else 41) := boxed rfl
            have HH := boxed (fun h => rfs_hit R k rn H0.out h hlt)
            have HN := boxed (rfs_next R k H0.out)
            have HA0 : Box (k = 0 → ahd R k = -1) := boxed (by intro h; subst h; rfl)
            generalize ahd R k = A at *
            generalize R k = r at *
            obtain ⟨lo, hi, wd⟩ := r
            simp only at *
            have hun : undef = Value.tuple #[] := rfl
            by_cases hk0 : k = 0
            · have hA := HA0.out hk0
              subst hA
              have k1 : ((k : Int) == 0) = true := by simpa using hk0
              have k2 : decide (0 < (k : Int)) = false := decide_eq_false (by omega)
              have k3 : decide (0 < k) = false := decide_eq_false (by omega)
              clear hk0 HP HA0
              by_cases h1 : lo < 0
              · have d1 : decide (lo < 0) = true := decide_eq_true h1
                have HFV : Box (rfa R k = 42) := boxed (by rw [HF.out]; rw [if_pos (by omega)])
                clear HF h1
                go_wp2
                go_quiet (fail)
                go_wp2
                go_ret
                exact ⟨ret_int (by rw [HV.out, HH.out (by rw [HFV.out]; decide), HFV.out]), by have hb := HB.out; have hz := HB.out.size; first | (refine Below.trans ?_ (bel_drewN _ _ _); go_grown; done) | go_grown⟩
              have d1 : decide (lo < 0) = false := decide_eq_false h1
              by_cases h2 : hi < lo
              · have d2 : decide (hi < lo) = true := decide_eq_true h2
                have HFV : Box (rfa R k = 42) := boxed (by rw [HF.out]; rw [if_pos (by omega)])
                clear HF h1 h2
                go_wp2
                go_quiet (fail)
                go_wp2
                go_ret
                exact ⟨ret_int (by rw [HV.out, HH.out (by rw [HFV.out]; decide), HFV.out]), by have hb := HB.out; have hz := HB.out.size; first | (refine Below.trans ?_ (bel_drewN _ _ _); go_grown; done) | go_grown⟩
              have d2 : decide (hi < lo) = false := decide_eq_false h2
              by_cases h3 : (1114111 : Int) < hi
              · have d3 : decide ((1114111 : Int) < hi) = true := decide_eq_true h3
                have HFV : Box (rfa R k = 42) := boxed (by rw [HF.out]; rw [if_pos (by omega)])
                clear HF h1 h2 h3
                go_wp2
                go_quiet (fail)
                go_wp2
                go_ret
                exact ⟨ret_int (by rw [HV.out, HH.out (by rw [HFV.out]; decide), HFV.out]), by have hb := HB.out; have hz := HB.out.size; first | (refine Below.trans ?_ (bel_drewN _ _ _); go_grown; done) | go_grown⟩
              have d3 : decide ((1114111 : Int) < hi) = false := decide_eq_false h3
              cases h4 : un wd with
              | false =>
                have HFV : Box (rfa R k = 41) := boxed (by rw [HF.out]; rw [if_neg (by omega), h4]; rfl)
                clear HF h1 h2 h3
                go_wp2
                go_quiet (fail)
                go_wp2_with (go_at_call 68; refine (fits0_any _ _).mono ?_; rintro e w' ⟨rfl, hw'⟩; subst w')
                go_ret
                exact ⟨ret_int (by rw [HV.out, HH.out (by rw [HFV.out]; decide), HFV.out]), by have hb := HB.out; have hz := HB.out.size; first | (refine Below.trans ?_ (bel_drewN _ _ _); go_grown; done) | go_grown⟩
              | true =>
                have HFV : Box (rfa R k = 0) := boxed (by rw [HF.out]; rw [if_neg (by omega), h4]; rfl)
                clear HF h1 h2 h3
                go_wp2
                go_quiet (fail)
                go_wp2_with (go_at_call 68; refine (fits0_any _ _).mono ?_; rintro e w' ⟨rfl, hw'⟩; subst w')
                go_roundw
                case rel => exact ⟨k + 1, by omega, by go_num, boxed (HN.out HFV.out), boxed (by have hb := HB.out; have hz := HB.out.size; first | (refine Below.trans ?_ (bel_drewN _ _ _); go_grown; done) | go_grown), hold (((Below.refl _ _).alloc (Nat.le_refl _) _).trans (bel_drewN _ _ _)) c6, by simp; omega⟩
                case measure => simp [intOf]; omega
            · obtain ⟨m, rfl⟩ : ∃ m, k = m + 1 := ⟨k - 1, by omega⟩
              have cp := HP.out (by omega)
              rw [show m + 1 - 1 = m by omega] at cp
              have k1 : (((m : Int) + 1) == 0) = false := by rw [beq_eq_false_iff_ne]; omega
              have k2 : decide (0 < (m : Int) + 1) = true := decide_eq_true (by omega)
              clear HP HA0 hk0
              by_cases h1 : lo ≤ A
              · have d1 : decide (lo ≤ A) = true := decide_eq_true h1
                have HFV : Box (rfa R (m + 1) = 42) := boxed (by rw [HF.out]; rw [if_pos (by omega)])
                clear HF h1
                go_wp2
                go_quiet (fail)
                go_wp2
                go_ret
                exact ⟨ret_int (by rw [HV.out, HH.out (by rw [HFV.out]; decide), HFV.out]), by have hb := HB.out; have hz := HB.out.size; first | (refine Below.trans ?_ (bel_drewN _ _ _); go_grown; done) | go_grown⟩
              have d1 : decide (lo ≤ A) = false := decide_eq_false h1
              by_cases h2 : hi < lo
              · have d2 : decide (hi < lo) = true := decide_eq_true h2
                have HFV : Box (rfa R (m + 1) = 42) := boxed (by rw [HF.out]; rw [if_pos (by omega)])
                clear HF h1 h2
                go_wp2
                go_quiet (fail)
                go_wp2
                go_ret
                exact ⟨ret_int (by rw [HV.out, HH.out (by rw [HFV.out]; decide), HFV.out]), by have hb := HB.out; have hz := HB.out.size; first | (refine Below.trans ?_ (bel_drewN _ _ _); go_grown; done) | go_grown⟩
              have d2 : decide (hi < lo) = false := decide_eq_false h2
              by_cases h3 : (1114111 : Int) < hi
              · have d3 : decide ((1114111 : Int) < hi) = true := decide_eq_true h3
                have HFV : Box (rfa R (m + 1) = 42) := boxed (by rw [HF.out]; rw [if_pos (by omega)])
                clear HF h1 h2 h3
                go_wp2
                go_quiet (fail)
                go_wp2
                go_ret
                exact ⟨ret_int (by rw [HV.out, HH.out (by rw [HFV.out]; decide), HFV.out]), by have hb := HB.out; have hz := HB.out.size; first | (refine Below.trans ?_ (bel_drewN _ _ _); go_grown; done) | go_grown⟩
              have d3 : decide ((1114111 : Int) < hi) = false := decide_eq_false h3
              cases h4 : un wd with
              | false =>
                have HFV : Box (rfa R (m + 1) = 41) := boxed (by rw [HF.out]; rw [if_neg (by omega), h4]; rfl)
                clear HF h1 h2 h3
                go_wp2
                go_quiet (fail)
                go_wp2_with (go_at_call 68; refine (fits0_any _ _).mono ?_; rintro e w' ⟨rfl, hw'⟩; subst w')
                go_ret
                exact ⟨ret_int (by rw [HV.out, HH.out (by rw [HFV.out]; decide), HFV.out]), by have hb := HB.out; have hz := HB.out.size; first | (refine Below.trans ?_ (bel_drewN _ _ _); go_grown; done) | go_grown⟩
              | true =>
                have HFV : Box (rfa R (m + 1) = 0) := boxed (by rw [HF.out]; rw [if_neg (by omega), h4]; rfl)
                clear HF h1 h2 h3
                go_wp2
                go_quiet (fail)
                go_wp2_with (go_at_call 68; refine (fits0_any _ _).mono ?_; rintro e w' ⟨rfl, hw'⟩; subst w')
                go_roundw
                case rel => exact ⟨(m + 1) + 1, by omega, by go_num, boxed (HN.out HFV.out), boxed (by have hb := HB.out; have hz := HB.out.size; first | (refine Below.trans ?_ (bel_drewN _ _ _); go_grown; done) | go_grown), hold (((Below.refl _ _).alloc (Nat.le_refl _) _).trans (bel_drewN _ _ _)) c6, by simp; omega⟩
                case measure => simp [intOf]; omega
          · have e : k = rn := by omega
            subst e
            go_wp2
            go_ret
            exact ⟨ret_int (by rw [HV.out, H0.out]), HB.out⟩
end Go.Proofs.Ytcdcpmcjlchfgaa
