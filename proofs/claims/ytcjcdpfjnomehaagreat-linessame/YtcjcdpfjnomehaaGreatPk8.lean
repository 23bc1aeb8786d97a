/-
  What the program's Mul, Sub, Neg and Scale answer.
-/
import Derived.Test.YtcjcdpfjnomehaaGreatPk4
import Derived.Test.YtcjcdpfjnomehaaGreatPk7
namespace Go.Proofs.YtcjcdpfjnomehaaGreat
open Go.RowKit
set_option linter.unusedSimpArgs false
set_option linter.unusedVariables false
theorem mdv_one (a b : Int) : mdv a b 1 = ml a b := by
  unfold mdv ml
  rw [if_neg (by omega)]
  have : cl 1 = 1 := by decide
  rw [this, Int.fdiv_one]
set_option maxRecDepth 100000 in
set_option maxHeartbeats 400000 in
theorem mul_any (a b : Int) (w : World) :
    Calls Tryz.prog 225 #[.int .i64 a, .int .i64 b] w fun e w' => e = .returned (.int .i64 (ml a b)) ∧ ∃ n, w' = w.drewN n := by
  rw [← mdv_one]
  go_enter Tryz.func225, Tryz.ntmps225
  go_wp2_with fail
  refine (muldiv_any _ _ _ _).mono ?_
  rintro e w' ⟨rfl, n, rfl⟩
  go_wp2_with fail
  go_ret
  exact ⟨rfl, _, rfl⟩
set_option maxRecDepth 100000 in
set_option maxHeartbeats 400000 in
theorem sub_any (a b : Int) (w : World) :
    Calls Tryz.prog 156 #[.int .i64 a, .int .i64 b] w fun e w' => e = .returned (.int .i64 (cl (cl a - cl b))) ∧ w' = w := by
  have h1 := cl_le a
  have h2 := cl_le b
  go_enter Tryz.func156, Tryz.ntmps156
  go_wp2_with (go_at_call 187; refine (clamp_any _ _).mono ?_; rintro e w' ⟨rfl, hw'⟩; subst w')
  go_ret
  exact ⟨rfl, rfl⟩
end Go.Proofs.YtcjcdpfjnomehaaGreat

/-
  What Demerits (the program's and the document's) answers for any three numbers.
-/
namespace Go.Proofs.YtcjcdpfjnomehaaGreat
open Go.RowKit
set_option linter.unusedSimpArgs false
set_option linter.unusedVariables false
def dt (l b p : Int) : Int :=
  if 0 ≤ p then ad (ml (ad l b) (ad l b)) (ml p p) else if -10000 < p then cl (cl (ml (ad l b) (ad l b)) - cl (ml p p)) else ml (ad l b) (ad l b)
def dm (l b p : Int) : Int := max (dt l b p) 0
set_option maxRecDepth 100000 in
set_option maxHeartbeats 400000 in
theorem square_any (a : Int) (w : World) :
    Calls Tryz.prog 222 #[.int .i64 a] w fun e w' => e = .returned (.int .i64 (ml a a)) ∧ ∃ n, w' = w.drewN n := by
  go_enter Tryz.func222, Tryz.ntmps222
  go_wp2_with fail
  refine (mul_any _ _ _).mono ?_
  rintro e w' ⟨rfl, n, rfl⟩
  go_wp2_with fail
  go_ret
  exact ⟨rfl, _, rfl⟩
set_option maxRecDepth 100000 in
set_option maxHeartbeats 400000 in
theorem demerits_any (l b p : Int) (w : World) :
    Calls Tryz.prog 215 #[.int .i64 l, .int .i64 b, .int .i64 p] w fun e w' => e = .returned (.int .i64 (dm l b p)) ∧ ∃ n, w' = w.drewN n := by
  unfold dm
  by_cases h1 : 0 ≤ p
  · have e : dt l b p = ad (ml (ad l b) (ad l b)) (ml p p) := by simp [dt, h1]
    rw [e]
    clear e
    go_enter Tryz.func215, Tryz.ntmps215
    go_wp2_with fail
    refine (add_any _ _ _).mono ?_
    rintro e w' ⟨rfl, hw'⟩
    subst w'
    go_wp2_with fail
    refine (square_any _ _).mono ?_
    rintro e w' ⟨rfl, n, rfl⟩
    go_wp2_with fail
    refine (square_any _ _).mono ?_
    rintro e w' ⟨rfl, n2, rfl⟩
    go_wp2_with fail
    refine (add_any _ _ _).mono ?_
    rintro e w' ⟨rfl, hw'⟩
    subst w'
    go_wp2_with fail
    go_ret
    exact ⟨rfl, _, rfl⟩
  · by_cases h2 : -10000 < p
    · have e : dt l b p = cl (cl (ml (ad l b) (ad l b)) - cl (ml p p)) := by simp [dt, h1, h2]
      rw [e]
      clear e
      go_enter Tryz.func215, Tryz.ntmps215
      go_wp2_with fail
      refine (add_any _ _ _).mono ?_
      rintro e w' ⟨rfl, hw'⟩
      subst w'
      go_wp2_with fail
      refine (square_any _ _).mono ?_
      rintro e w' ⟨rfl, n, rfl⟩
      go_wp2_with fail
      refine (square_any _ _).mono ?_
      rintro e w' ⟨rfl, n2, rfl⟩
      go_wp2_with fail
      refine (sub_any _ _ _).mono ?_
      rintro e w' ⟨rfl, hw'⟩
      subst w'
      go_wp2_with fail
      go_ret
      exact ⟨rfl, _, rfl⟩
    · have e : dt l b p = ml (ad l b) (ad l b) := by simp [dt, h1, h2]
      rw [e]
      clear e
      go_enter Tryz.func215, Tryz.ntmps215
      go_wp2_with fail
      refine (add_any _ _ _).mono ?_
      rintro e w' ⟨rfl, hw'⟩
      subst w'
      go_wp2_with fail
      refine (square_any _ _).mono ?_
      rintro e w' ⟨rfl, n, rfl⟩
      go_wp2_with fail
      go_ret
      exact ⟨rfl, _, rfl⟩
end Go.Proofs.YtcjcdpfjnomehaaGreat
