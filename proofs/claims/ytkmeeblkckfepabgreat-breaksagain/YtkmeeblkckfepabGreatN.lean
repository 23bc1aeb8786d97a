/-
  What the program's numbers of 256 bits answer: times: the product by a word, as far as it has room; above: which of two is greater; cube: the third power.
-/
import Derived.Test.YtkmeeblkckfepabGreatB
import Derived.Test.YtkmeeblkckfepabGreatQ
import Derived.Laws.Externs
namespace Go.Proofs.YtkmeeblkckfepabGreat
open Go.RowKit
set_option linter.unusedSimpArgs false
set_option linter.unusedVariables false

/-- Four words, the lowest first, as one number. -/
def wv (a b c d : Nat) : Nat := a + 18446744073709551616 * (b + 18446744073709551616 * (c + 18446744073709551616 * d))

/-- One word's product and the carry: what stays and what goes on. -/
theorem mul_step (x n c : Nat) (hx : x < 18446744073709551616) (hn : n < 18446744073709551616) (hc : c < 18446744073709551616) :
    ∃ s m : Nat, s = (x * n % 18446744073709551616 + c) % 18446744073709551616 ∧ m = (x * n % 18446744073709551616 + c) / 18446744073709551616 ∧ s < 18446744073709551616 ∧
      x * n / 18446744073709551616 + m < 18446744073709551616 ∧ x * n + c = s + 18446744073709551616 * (x * n / 18446744073709551616 + m) := by
  have h : x * n ≤ 18446744073709551615 * 18446744073709551615 := Nat.mul_le_mul (by omega) (by omega)
  generalize x * n = p at *
  exact ⟨_, _, rfl, rfl, by omega, by omega, by omega⟩

theorem add64_0 (x y : Int) (hx : 0 ≤ x) (hy : 0 ≤ y) (w : World) : (callFunc 102 #[.int .u64 x, .int .u64 y, .int .u64 0]).run Tryz.prog w =
    .ok (.value (.tuple #[.int .u64 ((x + y) % 18446744073709551616), .int .u64 ((x + y) / 18446744073709551616)])) w := by
  rw [run_callFunc_extern Tryz.func102 (by kernel_rfl) (by kernel_rfl) (by kernel_rfl) (e := add64Entry) (by kernel_rfl), run_add64 x y 0 hx hy (by omega) (by omega)]
  simp [Result.andThen]

theorem times_val (x0 x1 x2 x3 n y0 y1 y2 y3 c1 c2 c3 c4 : Nat) (e0 : x0 * n + 0 = y0 + 18446744073709551616 * c1) (e1 : x1 * n + c1 = y1 + 18446744073709551616 * c2)
    (e2 : x2 * n + c2 = y2 + 18446744073709551616 * c3) (e3 : x3 * n + c3 = y3 + 18446744073709551616 * c4) : wv x0 x1 x2 x3 * n = wv y0 y1 y2 (y3 + 18446744073709551616 * c4) := by
  unfold wv
  rw [Nat.add_mul, Nat.mul_assoc, Nat.add_mul, Nat.mul_assoc, Nat.add_mul, Nat.mul_assoc]
  generalize x0 * n = p0 at *
  generalize x1 * n = p1 at *
  generalize x2 * n = p2 at *
  generalize x3 * n = p3 at *
  omega

set_option maxRecDepth 100000 in
set_option maxHeartbeats 2000000 in
theorem times_w (x0 x1 x2 x3 n : Nat) (h0 : x0 < 18446744073709551616) (h1 : x1 < 18446744073709551616) (h2 : x2 < 18446744073709551616) (h3 : x3 < 18446744073709551616) (hn : n < 18446744073709551616) :
    ∃ y0 y1 y2 y3 : Nat, (y0 < 18446744073709551616 ∧ y1 < 18446744073709551616 ∧ y2 < 18446744073709551616 ∧ y3 < 18446744073709551616) ∧ (∃ c, wv x0 x1 x2 x3 * n = wv y0 y1 y2 (y3 + 18446744073709551616 * c)) ∧
      ∀ w : World, Calls Tryz.prog 97 #[.agg #[.int .u64 x0, .int .u64 x1, .int .u64 x2, .int .u64 x3], .int .u64 n] w fun e w' => e = .returned (.agg #[.int .u64 y0, .int .u64 y1, .int .u64 y2, .int .u64 y3]) ∧ Below w.heap.size w w' := by
  obtain ⟨y0, m0, a0, b0, l0, k0, e0⟩ := mul_step x0 n 0 h0 hn (by omega)
  obtain ⟨c1, hc1⟩ : ∃ c1, x0 * n / 18446744073709551616 + m0 = c1 := ⟨_, rfl⟩
  rw [hc1] at k0 e0
  obtain ⟨y1, m1, a1, b1, l1, k1, e1⟩ := mul_step x1 n c1 h1 hn k0
  obtain ⟨c2, hc2⟩ : ∃ c2, x1 * n / 18446744073709551616 + m1 = c2 := ⟨_, rfl⟩
  rw [hc2] at k1 e1
  obtain ⟨y2, m2, a2, b2, l2, k2, e2⟩ := mul_step x2 n c2 h2 hn k1
  obtain ⟨c3, hc3⟩ : ∃ c3, x2 * n / 18446744073709551616 + m2 = c3 := ⟨_, rfl⟩
  rw [hc3] at k2 e2
  obtain ⟨y3, m3, a3, b3, l3, k3, e3⟩ := mul_step x3 n c3 h3 hn k2
  obtain ⟨c4, hc4⟩ : ∃ c4, x3 * n / 18446744073709551616 + m3 = c4 := ⟨_, rfl⟩
  rw [hc4] at k3 e3
  have HV := hidq (times_val x0 x1 x2 x3 n y0 y1 y2 y3 c1 c2 c3 c4 e0 e1 e2 e3)
  clear e0 e1 e2 e3
  have q0 : x0 * n % 18446744073709551616 < 18446744073709551616 := by omega
  have q1 : x1 * n % 18446744073709551616 < 18446744073709551616 := by omega
  have q2 : x2 * n % 18446744073709551616 < 18446744073709551616 := by omega
  have q3 : x3 * n % 18446744073709551616 < 18446744073709551616 := by omega
  have ad : ∀ (l c s m : Nat), s = (l + c) % 18446744073709551616 → m = (l + c) / 18446744073709551616 → ∀ w, (callFunc 102 #[.int .u64 (l : Int), .int .u64 (c : Int), .int .u64 0]).run Tryz.prog w = .ok (.value (.tuple #[.int .u64 (s : Int), .int .u64 (m : Int)])) w := by
    intro l c s m h1 h2 w
    have e1 : ((l : Int) + (c : Int)) % 18446744073709551616 = (s : Int) := by omega
    have e2 : ((l : Int) + (c : Int)) / 18446744073709551616 = (m : Int) := by omega
    rw [add64_0 l c (by omega) (by omega), e1, e2]
  have A0 := ad _ 0 _ _ a0 b0
  have A1 := ad _ c1 _ _ a1 b1
  have A2 := ad _ c2 _ _ a2 b2
  have A3 := ad _ c3 _ _ a3 b3
  have A0 : ∀ w, (callFunc 102 #[.int .u64 ((x0 * n % 18446744073709551616 : Nat) : Int), .int .u64 0, .int .u64 0]).run Tryz.prog w = .ok (.value (.tuple #[.int .u64 (y0 : Int), .int .u64 (m0 : Int)])) w := A0
  have C1 : ((x0 * n / 18446744073709551616 : Nat) : Int) + (m0 : Int) = (c1 : Int) := by omega
  have C2 : ((x1 * n / 18446744073709551616 : Nat) : Int) + (m1 : Int) = (c2 : Int) := by omega
  have C3 : ((x2 * n / 18446744073709551616 : Nat) : Int) + (m2 : Int) = (c3 : Int) := by omega
  have C4 : ((x3 * n / 18446744073709551616 : Nat) : Int) + (m3 : Int) = (c4 : Int) := by omega
  have B1 : (0 : Int) ≤ (c1 : Int) ∧ (c1 : Int) ≤ 18446744073709551615 := by omega
  have B2 : (0 : Int) ≤ (c2 : Int) ∧ (c2 : Int) ≤ 18446744073709551615 := by omega
  have B3 : (0 : Int) ≤ (c3 : Int) ∧ (c3 : Int) ≤ 18446744073709551615 := by omega
  have B4 : (0 : Int) ≤ (c4 : Int) ∧ (c4 : Int) ≤ 18446744073709551615 := by omega
  have HL := hidq (show y0 < 18446744073709551616 ∧ y1 < 18446744073709551616 ∧ y2 < 18446744073709551616 ∧ y3 < 18446744073709551616 from ⟨l0, l1, l2, l3⟩)
  have HH0 := hidq h0
  have HH1 := hidq h1
  have HH2 := hidq h2
  have HH3 := hidq h3
  have HHn := hidq hn
  clear ad a0 a1 a2 a3 b0 b1 b2 b3 hc1 hc2 hc3 hc4 k0 k1 k2 k3 l0 l1 l2 l3 q0 q1 q2 q3 h0 h1 h2 h3 hn
  refine ⟨y0, y1, y2, y3, HL.out, ⟨c4, HV.out⟩, fun w => ?_⟩
  go_enter Tryz.func97, Tryz.ntmps97
  go_wp2_with fail
  refine wp_loop_rounds 5 ?_
  rw [rounds_succ]
  go_wp2_with fail
  refine (Tryz.bits_Mul64 x0 n HH0.out HHn.out _).mono ?_
  rintro e w' ⟨rfl, hw'⟩
  subst w'
  generalize x0 * n / 18446744073709551616 = hi0 at *
  generalize x0 * n % 18446744073709551616 = lo0 at *
  go_wp2_with fail
  rw [rounds_succ]
  go_wp2_with fail
  refine (Tryz.bits_Mul64 x1 n HH1.out HHn.out _).mono ?_
  rintro e w' ⟨rfl, hw'⟩
  subst w'
  generalize x1 * n / 18446744073709551616 = hi1 at *
  generalize x1 * n % 18446744073709551616 = lo1 at *
  go_wp2_with fail
  rw [rounds_succ]
  go_wp2_with fail
  refine (Tryz.bits_Mul64 x2 n HH2.out HHn.out _).mono ?_
  rintro e w' ⟨rfl, hw'⟩
  subst w'
  generalize x2 * n / 18446744073709551616 = hi2 at *
  generalize x2 * n % 18446744073709551616 = lo2 at *
  go_wp2_with fail
  rw [rounds_succ]
  go_wp2_with fail
  refine (Tryz.bits_Mul64 x3 n HH3.out HHn.out _).mono ?_
  rintro e w' ⟨rfl, hw'⟩
  subst w'
  generalize x3 * n / 18446744073709551616 = hi3 at *
  generalize x3 * n % 18446744073709551616 = lo3 at *
  go_wp2_with fail
  rw [rounds_succ]
  go_wp2_with fail
  refine bodyPost_ret (v := .agg #[.int .u64 y0, .int .u64 y1, .int .u64 y2, .int .u64 y3]) (by simp [results, Tryz.results97, go_sem]) rfl ⟨rfl, ?_⟩
  exact ((Below.refl _ _).alloc (Nat.le_refl _) _).alloc (by simp) _

theorem above_at (x0 x1 x2 x3 v0 v1 v2 v3 : Nat) (a0 : x0 < 18446744073709551616) (a1 : x1 < 18446744073709551616) (a2 : x2 < 18446744073709551616) (b0 : v0 < 18446744073709551616) (b1 : v1 < 18446744073709551616) (b2 : v2 < 18446744073709551616) :
    (¬ x3 = v3 → decide (v3 < x3) = decide (wv v0 v1 v2 v3 < wv x0 x1 x2 x3)) ∧ (x3 = v3 → ¬ x2 = v2 → decide (v2 < x2) = decide (wv v0 v1 v2 v3 < wv x0 x1 x2 x3)) ∧
    (x3 = v3 → x2 = v2 → ¬ x1 = v1 → decide (v1 < x1) = decide (wv v0 v1 v2 v3 < wv x0 x1 x2 x3)) ∧
    (x3 = v3 → x2 = v2 → x1 = v1 → ¬ x0 = v0 → decide (v0 < x0) = decide (wv v0 v1 v2 v3 < wv x0 x1 x2 x3)) ∧
    (x3 = v3 → x2 = v2 → x1 = v1 → x0 = v0 → false = decide (wv v0 v1 v2 v3 < wv x0 x1 x2 x3)) := by
  unfold wv
  refine ⟨?_, ?_, ?_, ?_, ?_⟩
  · intro h; rw [decide_eq_decide]; omega
  · intro h k; rw [decide_eq_decide]; omega
  · intro h k l; rw [decide_eq_decide]; omega
  · intro h k l m; rw [decide_eq_decide]; omega
  · intro h k l m; subst h k l m; simp

set_option maxRecDepth 100000 in
set_option maxHeartbeats 2000000 in
theorem above_w (x0 x1 x2 x3 v0 v1 v2 v3 : Nat) (w : World) (r : Bool) (HR : Box (r = decide (wv v0 v1 v2 v3 < wv x0 x1 x2 x3)))
    (a : Box (x0 < 18446744073709551616 ∧ x1 < 18446744073709551616 ∧ x2 < 18446744073709551616 ∧ x3 < 18446744073709551616)) (b : Box (v0 < 18446744073709551616 ∧ v1 < 18446744073709551616 ∧ v2 < 18446744073709551616 ∧ v3 < 18446744073709551616)) :
    Calls Tryz.prog 100 #[.agg #[.int .u64 x0, .int .u64 x1, .int .u64 x2, .int .u64 x3], .agg #[.int .u64 v0, .int .u64 v1, .int .u64 v2, .int .u64 v3]] w fun e w' => e = .returned (.bool r) ∧ Below w.heap.size w w' := by
  have HA := hidq (above_at x0 x1 x2 x3 v0 v1 v2 v3 a.out.1 a.out.2.1 a.out.2.2.1 b.out.1 b.out.2.1 b.out.2.2.1)
  have HW : ∀ (o1 o2 : Obj), Hid (Below w.heap.size w ((w.alloc o1).alloc o2)) := fun o1 o2 => ((Below.refl _ _).alloc (Nat.le_refl _) _).alloc (by simp) _
  by_cases h3 : x3 = v3
  · have g3 : ((x3 : Int) != (v3 : Int)) = false := by rw [bne_eq_false_iff_eq]; omega
    have E3 := hidq h3
    clear h3
    by_cases h2 : x2 = v2
    · have g2 : ((x2 : Int) != (v2 : Int)) = false := by rw [bne_eq_false_iff_eq]; omega
      have E2 := hidq h2
      clear h2
      by_cases h1 : x1 = v1
      · have g1 : ((x1 : Int) != (v1 : Int)) = false := by rw [bne_eq_false_iff_eq]; omega
        have E1 := hidq h1
        clear h1
        by_cases h0 : x0 = v0
        · have g0 : ((x0 : Int) != (v0 : Int)) = false := by rw [bne_eq_false_iff_eq]; omega
          have E0 := hidq h0
          clear h0
          go_enter Tryz.func100, Tryz.ntmps100
          go_wp2_with fail
          refine wp_loop_rounds 5 ?_
          rw [rounds_succ]
          go_wp2_with fail
          go_quiet (fail)
          go_wp2_with fail
          rw [rounds_succ]
          go_wp2_with fail
          go_quiet (fail)
          go_wp2_with fail
          rw [rounds_succ]
          go_wp2_with fail
          go_quiet (fail)
          go_wp2_with fail
          rw [rounds_succ]
          go_wp2_with fail
          go_quiet (fail)
          go_wp2_with fail
          rw [rounds_succ]
          go_wp2_with fail
          go_ret
          exact ⟨ret_bool (by rw [HR.out]; exact HA.out.2.2.2.2 E3.out E2.out E1.out E0.out), by repeat (first | exact (HW _ _).out | refine Below.trans ?_ (bel_drewN _ _ _))⟩
        · have g0 : ((x0 : Int) != (v0 : Int)) = true := by rw [bne_iff_ne]; omega
          have E0 := hidq h0
          clear h0
          go_enter Tryz.func100, Tryz.ntmps100
          go_wp2_with fail
          refine wp_loop_rounds 5 ?_
          rw [rounds_succ]
          go_wp2_with fail
          go_quiet (fail)
          go_wp2_with fail
          rw [rounds_succ]
          go_wp2_with fail
          go_quiet (fail)
          go_wp2_with fail
          rw [rounds_succ]
          go_wp2_with fail
          go_quiet (fail)
          go_wp2_with fail
          rw [rounds_succ]
          go_wp2_with fail
          go_quiet (fail)
          go_wp2_with fail
          go_quiet (fail)
          go_wp2_with fail
          go_ret
          exact ⟨ret_bool (by rw [HR.out]; exact HA.out.2.2.2.1 E3.out E2.out E1.out E0.out), by repeat (first | exact (HW _ _).out | refine Below.trans ?_ (bel_drewN _ _ _))⟩
      · have g1 : ((x1 : Int) != (v1 : Int)) = true := by rw [bne_iff_ne]; omega
        have E1 := hidq h1
        clear h1
        go_enter Tryz.func100, Tryz.ntmps100
        go_wp2_with fail
        refine wp_loop_rounds 5 ?_
        rw [rounds_succ]
        go_wp2_with fail
        go_quiet (fail)
        go_wp2_with fail
        rw [rounds_succ]
        go_wp2_with fail
        go_quiet (fail)
        go_wp2_with fail
        rw [rounds_succ]
        go_wp2_with fail
        go_quiet (fail)
        go_wp2_with fail
        go_quiet (fail)
        go_wp2_with fail
        go_ret
        exact ⟨ret_bool (by rw [HR.out]; exact HA.out.2.2.1 E3.out E2.out E1.out), by repeat (first | exact (HW _ _).out | refine Below.trans ?_ (bel_drewN _ _ _))⟩
    · have g2 : ((x2 : Int) != (v2 : Int)) = true := by rw [bne_iff_ne]; omega
      have E2 := hidq h2
      clear h2
      go_enter Tryz.func100, Tryz.ntmps100
      go_wp2_with fail
      refine wp_loop_rounds 5 ?_
      rw [rounds_succ]
      go_wp2_with fail
      go_quiet (fail)
      go_wp2_with fail
      rw [rounds_succ]
      go_wp2_with fail
      go_quiet (fail)
      go_wp2_with fail
      go_quiet (fail)
      go_wp2_with fail
      go_ret
      exact ⟨ret_bool (by rw [HR.out]; exact HA.out.2.1 E3.out E2.out), by repeat (first | exact (HW _ _).out | refine Below.trans ?_ (bel_drewN _ _ _))⟩
  · have g3 : ((x3 : Int) != (v3 : Int)) = true := by rw [bne_iff_ne]; omega
    have E3 := hidq h3
    clear h3
    go_enter Tryz.func100, Tryz.ntmps100
    go_wp2_with fail
    refine wp_loop_rounds 5 ?_
    rw [rounds_succ]
    go_wp2_with fail
    go_quiet (fail)
    go_wp2_with fail
    go_quiet (fail)
    go_wp2_with fail
    go_ret
    exact ⟨ret_bool (by rw [HR.out]; exact HA.out.1 E3.out), by repeat (first | exact (HW _ _).out | refine Below.trans ?_ (bel_drewN _ _ _))⟩
end Go.Proofs.YtkmeeblkckfepabGreat
