/-
  Settings: what the program's within and Check and the document's Settings answer; which sums and widths the statements call fair.
-/
import Derived.Test.YtkmeeblkckfepabGreatEk
import Derived.Test.YtkmeeblkckfepabGreatEl
namespace Go.Proofs.YtkmeeblkckfepabGreat
open Go.RowKit
set_option linter.unusedSimpArgs false
set_option linter.unusedVariables false

/-- Is a number from a to b? -/
def wi (n a b : Int) : Bool := decide (a ≤ n) && decide (n ≤ b)
theorem wi_iff (n a b : Int) : wi n a b = true ↔ a ≤ n ∧ n ≤ b := by simp [wi]
theorem within_any (n a b : Int) (w : World) : Calls Tryz.prog 44 #[.int .i64 n, .int .i64 a, .int .i64 b] w fun e w' => e = .returned (.bool (wi n a b)) ∧ w' = w := by
  unfold wi
  by_cases h : a ≤ n
  all_goals
    go_enter Tryz.func44, Tryz.ntmps44
    go_wp2
    go_ret
    exact ⟨ret_bool (by first | (simp [h]; done) | (simp [h]; omega)), rfl⟩
/-- May settings be? -/
def okS (s : Stg) : Bool := (wi s.t 0 10000 && wi s.l 0 10000) && ((wi s.a 0 1048576 && wi s.d 0 1048576) && wi s.z 0 1048576) && (wi s.o 1 100 && wi s.i 1 100)
set_option maxRecDepth 100000 in
set_option maxHeartbeats 8000000 in
theorem check_any (s : Stg) (w : World) : Calls Tryz.prog 30 #[s.val] w fun e w' => e = .returned (.int .i64 (if okS s = true then 0 else 80)) ∧ Below w.heap.size w w' := by
  unfold okS Stg.val
  obtain ⟨t, l, a, d, z, o, i⟩ := s
  simp only
  have c1 := fun w => within_any t 0 10000 w
  have c2 := fun w => within_any l 0 10000 w
  have c3 := fun w => within_any a 0 1048576 w
  have c4 := fun w => within_any d 0 1048576 w
  have c5 := fun w => within_any z 0 1048576 w
  have c6 := fun w => within_any o 1 100 w
  have c7 := fun w => within_any i 1 100 w
  generalize wi t 0 10000 = b1 at *
  generalize wi l 0 10000 = b2 at *
  generalize wi a 0 1048576 = b3 at *
  generalize wi d 0 1048576 = b4 at *
  generalize wi z 0 1048576 = b5 at *
  generalize wi o 1 100 = b6 at *
  generalize wi i 1 100 = b7 at *
  cases b1 <;> cases b2
  all_goals
    go_enter Tryz.func30, Tryz.ntmps30
    go_wp2_with (go_at_call 44; (first | (with_reducible refine (c1 _).mono ?_) | (with_reducible refine (c2 _).mono ?_) | (with_reducible refine (c3 _).mono ?_) | (with_reducible refine (c4 _).mono ?_) | (with_reducible refine (c5 _).mono ?_) | (with_reducible refine (c6 _).mono ?_) | (with_reducible refine (c7 _).mono ?_)); rintro e w' ⟨rfl, hw'⟩; subst w')
    all_goals
      go_ret
      exact ⟨ret_int (by simp_all), by go_grown⟩
set_option maxRecDepth 100000 in
set_option maxHeartbeats 8000000 in
theorem refsett_any (s : Stg) (w : World) : Calls Tryz.prog 14 #[s.val] w fun e w' => e = .returned (.bool (okS s)) ∧ Below w.heap.size w w' := by
  have HV : Box (okS s = true ↔ ((0 ≤ s.t ∧ s.t ≤ 10000) ∧ (0 ≤ s.l ∧ s.l ≤ 10000) ∧ (0 ≤ s.a ∧ s.a ≤ 1048576) ∧ (0 ≤ s.d ∧ s.d ≤ 1048576) ∧ (0 ≤ s.z ∧ s.z ≤ 1048576) ∧ (1 ≤ s.o ∧ s.o ≤ 100) ∧ (1 ≤ s.i ∧ s.i ≤ 100))) := boxed (by simp [okS, wi]; omega)
  generalize okS s = V at *
  unfold Stg.val
  go_enter Tryz.func14, Tryz.ntmps14
  go_wp2
  all_goals try go_rounds 4
  all_goals
    go_ret
    exact ⟨ret_bool (by rw [Bool.eq_iff_iff, HV.out]; simp; omega), by go_grown⟩
/-- May a sum and a width be? -/
def frS (s : Sm) (width : Int) : Bool := wi s.w (-144115188075855872) 144115188075855872 && wi s.st 0 144115188075855872 && wi s.sh 0 144115188075855872 && wi width (-144115188075855872) 144115188075855872
end Go.Proofs.YtkmeeblkckfepabGreat
