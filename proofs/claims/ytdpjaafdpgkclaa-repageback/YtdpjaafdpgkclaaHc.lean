/-
  What the program's exceeds, May, within, Check and the document's May, Settings, Check answer.
-/
import Derived.Test.YtdpjaafdpgkclaaHb
namespace Go.Proofs.Ytdpjaafdpgkclaa
open Go.RowKit
set_option linter.unusedSimpArgs false
set_option linter.unusedVariables false

set_option maxRecDepth 100000 in
theorem exceeds_any (a b n : Int) (ha : I64 a) (hb : I64 b) (hn : I64 n) (w : World) : Calls Try.prog 65 #[.int .i64 a, .int .i64 b, .int .i64 n] w fun e w' => e = .returned (.bool (decide (n < a - b))) ∧ w' = w := by
  obtain ⟨a1, a2⟩ := ha
  obtain ⟨b1, b2⟩ := hb
  obtain ⟨n1, n2⟩ := hn
  have key : ∀ x : Int, wrap64 (a - b) = x → ∀ d1 d2 : Bool, decide (x < 0) = d1 → decide (a < b) = d2 → (if d1 = d2 then decide (n < x) else decide (b < a)) = decide (n < a - b) → Calls Try.prog 65 #[.int .i64 a, .int .i64 b, .int .i64 n] w fun e w' => e = .returned (.bool (decide (n < a - b))) ∧ w' = w := by
    intro x e d1 d2 t1 t2 h
    clear a1 a2 b1 b2 n1 n2
    rw [← h]
    clear h
    cases d1 <;> cases d2
    all_goals
      go_enter Try.func65, Try.ntmps65
      go_wp2
      go_ret
      exact ⟨rfl, rfl⟩
  by_cases h1 : a - b < -9223372036854775808
  · refine key (a - b + 18446744073709551616) (by unfold wrap64; omega) false true (decide_eq_false (by omega)) (decide_eq_true (by omega)) ?_
    rw [Bool.eq_iff_iff]; simp; omega
  · by_cases h2 : 9223372036854775807 < a - b
    · refine key (a - b - 18446744073709551616) (by unfold wrap64; omega) true false (decide_eq_true (by omega)) (decide_eq_false (by omega)) ?_
      rw [Bool.eq_iff_iff]; simp; omega
    · by_cases h3 : a < b
      · exact key (a - b) (by unfold wrap64; omega) true true (decide_eq_true (by omega)) (decide_eq_true (by omega)) rfl
      · exact key (a - b) (by unfold wrap64; omega) false false (decide_eq_false (by omega)) (decide_eq_false (by omega)) rfl
set_option maxRecDepth 100000 in
set_option maxHeartbeats 1000000 in
theorem may_any (s : Slt) (g : Stg) (hs : I64 s.i ∧ I64 s.c) (ho : I64 g.o ∧ I64 g.i) (w : World) : Calls Try.prog 59 #[s.val, g.val] w fun e w' => e = .returned (.bool (may s g.o g.i)) ∧ Below w.heap.size w w' := by
  have c1 := fun w => exceeds_any g.o s.i 1 ho.1 hs.1 (by unfold I64; omega) w
  have c2 := fun w => exceeds_any s.c s.i g.i hs.2 hs.1 ho.2 w
  obtain ⟨⟨i1, i2⟩, k1, k2⟩ := hs
  obtain ⟨⟨o1, o2⟩, v1, v2⟩ := ho
  unfold Slt.val Stg.val
  by_cases h : s.i + 1 = s.c
  · have hv : may s g.o g.i = !s.k := by unfold may; rw [if_pos h]
    rw [hv]
    have t1 : decide (s.i < s.c) = true := decide_eq_true (by omega)
    have t2 : wrap64 (s.i + 1) = s.c := by unfold wrap64; omega
    clear hv c1 c2
    go_enter Try.func59, Try.ntmps59
    go_wp2
    go_ret
    exact ⟨rfl, by go_grown⟩
  · have hv : may s g.o g.i = (!decide (1 < g.o - s.i) && decide (g.i < s.c - s.i)) := by
      unfold may; rw [if_neg h, Bool.eq_iff_iff]; simp; omega
    rw [hv]
    generalize decide (1 < g.o - s.i) = d1 at *
    generalize decide (g.i < s.c - s.i) = d2 at *
    have hne := boxed h
    by_cases h3 : s.i < s.c
    · have t1 : decide (s.i < s.c) = true := decide_eq_true h3
      have t3 : ((s.i + 1 : Int) == s.c) = false := by rw [beq_eq_false_iff_ne]; exact h
      clear hv h
      go_enter Try.func59, Try.ntmps59
      go_wp2_with (go_at_call 65; (first | (with_reducible refine (c1 _).mono ?_) | (with_reducible refine (c2 _).mono ?_)); rintro e w' ⟨rfl, hw'⟩; subst w')
      all_goals
        go_ret
        exact ⟨ret_bool (by simp_all), by go_grown⟩
    · have t1 : decide (s.i < s.c) = false := decide_eq_false h3
      clear hv h
      go_enter Try.func59, Try.ntmps59
      go_wp2_with (go_at_call 65; (first | (with_reducible refine (c1 _).mono ?_) | (with_reducible refine (c2 _).mono ?_)); rintro e w' ⟨rfl, hw'⟩; subst w')
      all_goals
        go_ret
        exact ⟨ret_bool (by simp_all), by go_grown⟩
set_option maxRecDepth 100000 in
set_option maxHeartbeats 1000000 in
theorem refmay_any (n : Nat) (hn : n ≤ 100000) (s : Slt) (g : Stg) (hs : SltOk n s) (w : World) : Calls Try.prog 57 #[s.val, g.val] w fun e w' => e = .returned (.bool (may s g.o g.i)) ∧ Below w.heap.size w w' := by
  obtain ⟨-, i1, i2, i3⟩ := hs
  unfold Slt.val Stg.val
  by_cases h : s.i + 1 = s.c
  · have hv : may s g.o g.i = !s.k := by unfold may; rw [if_pos h]
    rw [hv]
    have t2 : ((s.c - (s.i + 1) : Int) == 0) = true := by rw [beq_iff_eq]; omega
    clear hv
    go_enter Try.func57, Try.ntmps57
    go_wp2
    go_ret
    exact ⟨rfl, by go_grown⟩
  · have hv : may s g.o g.i = (decide (g.o ≤ s.i + 1) && decide (g.i ≤ s.c - (s.i + 1))) := by
      unfold may; rw [if_neg h]
    rw [hv]
    have t3 : ((s.c - (s.i + 1) : Int) == 0) = false := by rw [beq_eq_false_iff_ne]; omega
    clear hv h
    go_enter Try.func57, Try.ntmps57
    go_wp2
    all_goals
      go_ret
      exact ⟨ret_bool (by first | rfl | (rw [Bool.eq_iff_iff]; simp; omega)), by go_grown⟩
end Go.Proofs.Ytdpjaafdpgkclaa
