/-
  What lines cost: what the program's Total, unlike and Cost and the document's Total and Cost answer.
-/
import Derived.Test.YtkmeeblkckfepabGreatEk
import Derived.Test.YtkmeeblkckfepabGreatEl
import Derived.Test.YtkmeeblkckfepabGreatR
namespace Go.Proofs.YtkmeeblkckfepabGreat
open Go.RowKit
set_option linter.unusedSimpArgs false
set_option linter.unusedVariables false

/-- Two costs together. -/
def tt (a b : Int) : Int := min (ad a b) 1125899906842624
set_option maxHeartbeats 400000 in
theorem total_any (a b : Int) (w : World) : Calls Tryz.prog 60 #[.int .i64 a, .int .i64 b] w fun e w' => e = .returned (.int .i64 (tt a b)) ∧ w' = w := by
  unfold tt
  go_enter Tryz.func60, Tryz.ntmps60
  go_wp2_with (go_at_call 68; refine (add_any _ _ _).mono ?_; rintro e w' ⟨rfl, hw'⟩; subst w')
  all_goals
    go_ret
    exact ⟨ret_int (by omega), rfl⟩
theorem tt_comm (a b : Int) : tt a b = tt b a := by unfold tt ad; rw [Int.add_comm]
theorem tt_assoc (a b c : Int) (ha : 0 ≤ a) (hb : 0 ≤ b) (hc : 0 ≤ c) : tt (tt a b) c = tt a (tt b c) := by
  have key : ∀ x y : Int, 0 ≤ x → 0 ≤ y → tt x y = min (x + y) 1125899906842624 := by
    intro x y hx hy
    unfold tt ad cl
    repeat' split
    all_goals omega
  have h1 := key a b ha hb
  have h2 := key b c hb hc
  rw [key (tt a b) c (by omega) hc, key a (tt b c) ha (by omega), h1, h2]
  omega
/-- Are two classes more than 1 apart? -/
def un (a b : Int) : Bool := decide (b + 1 < a) || decide (a + 1 < b)
set_option maxHeartbeats 1000000 in
theorem unlike_any (a b : Int) (w : World) (ha : -1000 ≤ a ∧ a ≤ 1000) (hb : -1000 ≤ b ∧ b ≤ 1000) : Calls Tryz.prog 70 #[.int .i64 a, .int .i64 b] w fun e w' => e = .returned (.bool (un a b)) ∧ w' = w := by
  unfold un
  by_cases h : a ≤ b
  all_goals
    go_enter Tryz.func70, Tryz.ntmps70
    go_wp2
    go_ret
    exact ⟨ret_bool (by rw [Bool.eq_iff_iff]; simp only [IntKind.wrap_u64, decide_eq_true_eq, Bool.or_eq_true]; omega), rfl⟩
/-- What a line costs. -/
def cst (s : Stg) (f : Ft) (x : Itm) (ahead : Int) (flag last : Bool) : Int :=
  if f.over = true then 1125899906842624 else
    min (if (flag && last) = true then ad (if (flag && x.flag) = true then ad (if (decide (0 ≤ ahead) && un ahead f.cls) = true then ad (dm s.l f.bad x.c) s.a else dm s.l f.bad x.c) s.d else (if (decide (0 ≤ ahead) && un ahead f.cls) = true then ad (dm s.l f.bad x.c) s.a else dm s.l f.bad x.c)) s.z
      else (if (flag && x.flag) = true then ad (if (decide (0 ≤ ahead) && un ahead f.cls) = true then ad (dm s.l f.bad x.c) s.a else dm s.l f.bad x.c) s.d else (if (decide (0 ≤ ahead) && un ahead f.cls) = true then ad (dm s.l f.bad x.c) s.a else dm s.l f.bad x.c))) 1125899906842624
set_option maxRecDepth 100000 in
set_option maxHeartbeats 8000000 in
theorem cost_any (s : Stg) (f : Ft) (x : Itm) (ahead : Int) (flag last : Bool) (w : World) (ha : -1000 ≤ ahead ∧ ahead ≤ 1000) (hb : -1000 ≤ f.cls ∧ f.cls ≤ 1000) :
    Calls Tryz.prog 61 #[s.val, f.val, x.val, .agg #[.int .i64 ahead, .bool flag], .bool last] w fun e w' => e = .returned (.int .i64 (cst s f x ahead flag last)) ∧ Below w.heap.size w w' := by
  have HU := fun w => unlike_any ahead f.cls w ha hb
  obtain ⟨s1, s2, s3, s4, s5, s6, s7⟩ := s
  obtain ⟨f1, f2, f3, f4, f5⟩ := f
  obtain ⟨x1, x2, x3, x4, x5, x6, x7, x8, x9⟩ := x
  simp only at HU hb
  generalize HC : cst _ _ _ _ _ _ = C at *
  replace HC := boxed HC
  unfold Stg.val Ft.val Itm.val
  simp only
  cases f5
  rotate_left
  · go_enter Tryz.func61, Tryz.ntmps61
    go_wp2_with fail
    go_ret
    exact ⟨ret_int (by rw [← HC.out]; rfl), by go_grown⟩
  have hd := fun w => demerits_any s2 f3 x6 w
  obtain ⟨D, hD⟩ : ∃ D, dm s2 f3 x6 = D := ⟨_, rfl⟩
  rw [hD] at hd
  replace hD := boxed hD
  obtain ⟨u, hu⟩ : ∃ u, un ahead f4 = u := ⟨_, rfl⟩
  rw [hu] at HU
  replace hu := boxed hu
  cases flag
  all_goals cases x7
  all_goals cases last
  all_goals cases u
  all_goals by_cases h0 : 0 ≤ ahead
  all_goals
    go_enter Tryz.func61, Tryz.ntmps61
    go_wp2_with (first | (go_at_call 69; refine (hd _).mono ?_; rintro e w' ⟨rfl, n, rfl⟩) | (go_at_call 70; refine (HU _).mono ?_; rintro e w' ⟨rfl, hw'⟩; subst w') | (go_at_call 68; refine (add_any _ _ _).mono ?_; rintro e w' ⟨rfl, hw'⟩; subst w'))
    go_ret
    refine ⟨ret_int ?_, Below.trans (by go_grown) (bel_drewN _ _ _)⟩
    rw [← HC.out]
    have hD := hD.out
    have hu := hu.out
    first | (simp [cst, hD, hu, h0]; done) | (have h1 : ¬ 0 ≤ ahead := by omega
                                              simp [cst, hD, hu, h1]; done)
end Go.Proofs.YtkmeeblkckfepabGreat
