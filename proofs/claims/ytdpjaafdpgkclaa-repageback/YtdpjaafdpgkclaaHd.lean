/-
  What the program's within, Check and the document's Settings, Check answer.
-/
import Derived.Test.YtdpjaafdpgkclaaHb
namespace Go.Proofs.Ytdpjaafdpgkclaa
open Go.RowKit
set_option linter.unusedSimpArgs false
set_option linter.unusedVariables false

/-- Is a number from a to b? -/
def wi (n a b : Int) : Bool := decide (a ≤ n) && decide (n ≤ b)
theorem wi_iff (n a b : Int) : wi n a b = true ↔ a ≤ n ∧ n ≤ b := by simp [wi]
theorem within_any (n a b : Int) (w : World) : Calls Try.prog 58 #[.int .i64 n, .int .i64 a, .int .i64 b] w fun e w' => e = .returned (.bool (wi n a b)) ∧ w' = w := by
  unfold wi
  by_cases h : a ≤ n
  all_goals
    go_enter Try.func58, Try.ntmps58
    go_wp2
    go_ret
    exact ⟨ret_bool (by first | (simp [h]; done) | (simp [h]; omega)), rfl⟩
/-- May settings be? -/
def okS (s : Stg) : Bool := (wi s.t 0 10000 && wi s.l 0 10000) && ((wi s.a 0 1048576 && wi s.d 0 1048576) && wi s.z 0 1048576) && (wi s.o 1 100 && wi s.i 1 100)
theorem okS_oi {s : Stg} (h : okS s = true) : (1 ≤ s.o ∧ s.o ≤ 100) ∧ 1 ≤ s.i ∧ s.i ≤ 100 := by
  simp only [okS, Bool.and_eq_true, wi_iff] at h
  omega
set_option maxRecDepth 100000 in
set_option maxHeartbeats 8000000 in
theorem check_any (s : Stg) (w : World) : Calls Try.prog 46 #[s.val] w fun e w' => e = .returned (.int .i64 (if okS s = true then 0 else 80)) ∧ Below w.heap.size w w' := by
  unfold okS Stg.val
  obtain ⟨t, l, a, d, z, o, i⟩ := s
  simp only
  have c1 := fun w => within_any t 0 10000 w
  have c2 := fun w => within_any l 0 10000 w
  have c3 := fun w => within_any a 0 1048576 w
  have c4 := fun w => within_any d 0 1048576 w
  have c5 := fun w => within_any z 0 1048576 w
  have c6 := fun w => within_any o 1 100 w
  have c7 := fun w => within_any i 1 100 w
  generalize wi t 0 10000 = b1 at *
  generalize wi l 0 10000 = b2 at *
  generalize wi a 0 1048576 = b3 at *
  generalize wi d 0 1048576 = b4 at *
  generalize wi z 0 1048576 = b5 at *
  generalize wi o 1 100 = b6 at *
  generalize wi i 1 100 = b7 at *
  cases b1 <;> cases b2
  all_goals
    go_enter Try.func46, Try.ntmps46
    go_wp2_with (go_at_call 58; (first | (with_reducible refine (c1 _).mono ?_) | (with_reducible refine (c2 _).mono ?_) | (with_reducible refine (c3 _).mono ?_) | (with_reducible refine (c4 _).mono ?_) | (with_reducible refine (c5 _).mono ?_) | (with_reducible refine (c6 _).mono ?_) | (with_reducible refine (c7 _).mono ?_)); rintro e w' ⟨rfl, hw'⟩; subst w')
    all_goals
      go_ret
      exact ⟨ret_int (by simp_all), by go_grown⟩
/-- What Check of a height and settings answers. -/
def ckE (h : Int) (s : Stg) : Int := if 1 ≤ h ∧ h ≤ 1073741824 then (if okS s = true then 0 else 80) else 41
set_option maxRecDepth 100000 in
theorem pcheck_any (h : Int) (s : Stg) (w : World) : Calls Try.prog 31 #[.int .i64 h, s.val] w fun e w' => e = .returned (.int .i64 (ckE h s)) ∧ Below w.heap.size w w' := by
  have hc := fun w => check_any s w
  unfold ckE
  unfold Stg.val at *
  by_cases q : 1 ≤ h ∧ h ≤ 1073741824
  · rw [if_pos q]
    obtain ⟨q1, q2⟩ := q
    generalize (if okS s = true then (0 : Int) else 80) = V at *
    go_enter Try.func31, Try.ntmps31
    go_wp2_with fail
    refine (hc _).mono ?_
    rintro e w1 ⟨rfl, hb⟩
    have HB := boxed (kept_below (Below.refl _ _) (Nat.le_refl _) hb)
    clear hb hc
    go_wp2_with fail
    go_ret
    exact ⟨rfl, HB.out⟩
  · rw [if_neg q]
    go_enter Try.func31, Try.ntmps31
    by_cases q1 : h < 1
    · go_wp2_with fail
      go_ret
      exact ⟨rfl, by go_grown⟩
    · have q2 : 1073741824 < h := by omega
      go_wp2_with fail
      go_ret
      exact ⟨rfl, by go_grown⟩
set_option maxRecDepth 100000 in
set_option maxHeartbeats 8000000 in
theorem refsett_any (s : Stg) (w : World) : Calls Try.prog 42 #[s.val] w fun e w' => e = .returned (.bool (okS s)) ∧ Below w.heap.size w w' := by
  have HV : Box (okS s = true ↔ ((0 ≤ s.t ∧ s.t ≤ 10000) ∧ (0 ≤ s.l ∧ s.l ≤ 10000) ∧ (0 ≤ s.a ∧ s.a ≤ 1048576) ∧ (0 ≤ s.d ∧ s.d ≤ 1048576) ∧ (0 ≤ s.z ∧ s.z ≤ 1048576) ∧ (1 ≤ s.o ∧ s.o ≤ 100) ∧ (1 ≤ s.i ∧ s.i ≤ 100))) := boxed (by simp [okS, wi]; omega)
  generalize okS s = V at *
  unfold Stg.val
  go_enter Try.func42, Try.ntmps42
  go_wp2
  all_goals try go_rounds 4
  all_goals
    go_ret
    exact ⟨ret_bool (by rw [Bool.eq_iff_iff, HV.out]; simp; omega), by go_grown⟩
/-- May a page be so high, and settings be? -/
def ckB (h : Int) (s : Stg) : Bool := decide (1 ≤ h) && decide (h ≤ 1073741824) && okS s
set_option maxRecDepth 100000 in
theorem refcheck_any (h : Int) (s : Stg) (w : World) : Calls Try.prog 25 #[.int .i64 h, s.val] w fun e w' => e = .returned (.bool (ckB h s)) ∧ Below w.heap.size w w' := by
  have hc := fun w => refsett_any s w
  unfold ckB
  unfold Stg.val at *
  by_cases q : 1 ≤ h ∧ h ≤ 1073741824
  · obtain ⟨q1, q2⟩ := q
    have e1 : (decide (1 ≤ h) && decide (h ≤ 1073741824) && okS s) = okS s := by simp [q1, q2]
    rw [e1]
    clear e1
    go_enter Try.func25, Try.ntmps25
    go_wp2_with fail
    refine (hc _).mono ?_
    rintro e w1 ⟨rfl, hb⟩
    have HB := boxed (kept_below (Below.refl _ _) (Nat.le_refl _) hb)
    clear hb hc
    go_wp2_with fail
    go_ret
    exact ⟨rfl, HB.out⟩
  · have e1 : (decide (1 ≤ h) && decide (h ≤ 1073741824) && okS s) = false := by
      rw [Bool.eq_false_iff]; simp; omega
    rw [e1]
    go_enter Try.func25, Try.ntmps25
    by_cases q1 : 1 ≤ h
    · have q2 : 1073741824 < h := by omega
      go_wp2_with fail
      go_ret
      exact ⟨rfl, by go_grown⟩
    · go_wp2_with fail
      go_ret
      exact ⟨rfl, by go_grown⟩
end Go.Proofs.Ytdpjaafdpgkclaa
