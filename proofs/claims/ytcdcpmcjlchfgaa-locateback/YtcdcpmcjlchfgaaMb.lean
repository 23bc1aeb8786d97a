/-
  The first fault of a style, as the program's fault and the document's Style answer it: the same.
-/
import Derived.Test.YtcdcpmcjlchfgaaMa
namespace Go.Proofs.Ytcdcpmcjlchfgaa
open Go.RowKit
set_option linter.unusedSimpArgs false
set_option linter.unusedVariables false

theorem un_t {n : Int} (h : un n = true) : 0 ≤ n ∧ n ≤ 1048576 := by simpa [un] using h
theorem un_f {n : Int} (h : un n = false) : ¬ (0 ≤ n ∧ n ≤ 1048576) := by simp [un] at h; omega
theorem msr_h {s : Sty} (h : un s.h = true) (h0 : s.h ≠ 0) : (decide (1 ≤ s.h) && decide (s.h ≤ 1048576)) = true := by
  have := un_t h
  simp; omega

set_option maxRecDepth 100000 in
set_option maxHeartbeats 2000000 in
theorem fault_any (S : Nat → Prop) (s : Sty) (w : World) (hs : StyOk s) (hr : RgsAt S w s.ra s.rn s.R) :
    Calls Try.prog 53 #[s.val] w fun e w' => e = .returned (.int .i64 (flt s)) ∧ Below w.heap.size w w' := by
  have hn : s.rn * 24 ≤ 140737488351232 := by have := hs.rn; omega
  have hrf := fun w' (hb : Below w.heap.size w w') => rangesFault_any S s.ra s.rn s.rc s.R w' (hr.below hb) hn
  have HF : Box (flt s = if msr s = true then (if 64 < s.rn then 42 else rfs s.R s.rn) else 41) := boxed rfl
  have HM : Box (msr s = (decide (1 ≤ s.h) && decide (s.h ≤ 1048576) && un s.sp && un s.st && un s.sh && un s.hy && un s.ot && decide (s.sh ≤ s.sp))) := boxed rfl
  clear hr hs
  unfold Sty.val
  generalize flt s = V at *
  generalize msr s = M at *
  generalize rfs s.R s.rn = RF at *
  obtain ⟨h, sp, st, sh, hy, ot, ra, rn, rc, kp, R⟩ := s
  simp only at *
  by_cases h0 : h = 0
  · subst h0
    have HV : Box (V = 41) := boxed (by rw [HF.out, HM.out]; simp)
    go_enter Try.func53, Try.ntmps53
    go_wp2
    go_ret
    exact ⟨ret_int HV.out.symm, by go_grown⟩
  have t0 : (h == 0) = false := by simpa using h0
  cases g0 : un h with
  | false =>
    have HV : Box (V = 41) := boxed (by have := un_f g0; rw [HF.out, HM.out, if_neg]; simp; intros; omega)
    go_enter Try.func53, Try.ntmps53
    go_wp2_with (go_at_call 69; refine (unit_any _ _).mono ?_; rintro e w' ⟨rfl, hw'⟩; subst w')
    go_ret
    exact ⟨ret_int HV.out.symm, by go_grown⟩
  | true =>
    have hh : (decide (1 ≤ h) && decide (h ≤ 1048576)) = true := by have := un_t g0; simp; omega
    cases gsp : un sp with
    | false =>
      have HV : Box (V = 41) := boxed (by rw [HF.out, HM.out, if_neg]; simp [gsp])
      go_enter Try.func53, Try.ntmps53
      go_wp2_with (go_at_call 69; refine (unit_any _ _).mono ?_; rintro e w' ⟨rfl, hw'⟩; subst w')
      go_ret
      exact ⟨ret_int HV.out.symm, by go_grown⟩
    | true =>
      cases gst : un st with
      | false =>
        have HV : Box (V = 41) := boxed (by rw [HF.out, HM.out, if_neg]; simp [gst])
        go_enter Try.func53, Try.ntmps53
        go_wp2_with (go_at_call 69; refine (unit_any _ _).mono ?_; rintro e w' ⟨rfl, hw'⟩; subst w')
        go_ret
        exact ⟨ret_int HV.out.symm, by go_grown⟩
      | true =>
        cases gsh : un sh with
        | false =>
          have HV : Box (V = 41) := boxed (by rw [HF.out, HM.out, if_neg]; simp [gsh])
          go_enter Try.func53, Try.ntmps53
          go_wp2_with (go_at_call 69; refine (unit_any _ _).mono ?_; rintro e w' ⟨rfl, hw'⟩; subst w')
          go_ret
          exact ⟨ret_int HV.out.symm, by go_grown⟩
        | true =>
          cases ghy : un hy with
          | false =>
            have HV : Box (V = 41) := boxed (by rw [HF.out, HM.out, if_neg]; simp [ghy])
            go_enter Try.func53, Try.ntmps53
            go_wp2_with (go_at_call 69; refine (unit_any _ _).mono ?_; rintro e w' ⟨rfl, hw'⟩; subst w')
            go_ret
            exact ⟨ret_int HV.out.symm, by go_grown⟩
          | true =>
            cases got : un ot with
            | false =>
              have HV : Box (V = 41) := boxed (by rw [HF.out, HM.out, if_neg]; simp [got])
              go_enter Try.func53, Try.ntmps53
              go_wp2_with (go_at_call 69; refine (unit_any _ _).mono ?_; rintro e w' ⟨rfl, hw'⟩; subst w')
              go_ret
              exact ⟨ret_int HV.out.symm, by go_grown⟩
            | true =>
              by_cases g7 : sp < sh
              · have HV : Box (V = 41) := boxed (by rw [HF.out, HM.out, if_neg]; simp; intros; omega)
                go_enter Try.func53, Try.ntmps53
                go_wp2_with (go_at_call 69; refine (unit_any _ _).mono ?_; rintro e w' ⟨rfl, hw'⟩; subst w')
                go_ret
                exact ⟨ret_int HV.out.symm, by go_grown⟩
              have HMt : Box (M = true) := boxed (by rw [HM.out, hh, gsp, gst, gsh, ghy, got]; simp; omega)
              by_cases g8 : 64 < rn
              · have HV : Box (V = 42) := boxed (by rw [HF.out, HMt.out, if_pos rfl, if_pos g8])
                go_enter Try.func53, Try.ntmps53
                go_wp2_with (go_at_call 69; refine (unit_any _ _).mono ?_; rintro e w' ⟨rfl, hw'⟩; subst w')
                go_ret
                exact ⟨ret_int HV.out.symm, by go_grown⟩
              have HV : Box (V = RF) := boxed (by rw [HF.out, HMt.out, if_pos rfl, if_neg g8])
              go_enter Try.func53, Try.ntmps53
              go_wp2_with (first | (go_at_call 69; refine (unit_any _ _).mono ?_; rintro e w' ⟨rfl, hw'⟩; subst w'))
              refine (hrf _ (by go_grown)).mono ?_
              rintro e w1 ⟨rfl, hb1⟩
              have HB := boxed (below_step ((Below.refl w.heap.size w).alloc (Nat.le_refl _) _) (Nat.le_refl _) hb1)
              clear hb1 hrf
              go_wp2
              go_ret
              exact ⟨ret_int HV.out.symm, HB.out⟩
end Go.Proofs.Ytcdcpmcjlchfgaa
