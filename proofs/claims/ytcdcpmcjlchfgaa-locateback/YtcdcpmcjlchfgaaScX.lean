/-
  What the program's MulDiv, Mul, Scale, Sub and Neg answer: MulDiv: the exact product of the first two clamped numbers by the third, rounded down and clamped.
-/
import Derived.Test.YtcdcpmcjlchfgaaScQ
namespace Go.Proofs.Ytcdcpmcjlchfgaa.Sc
open Go.RowKit
set_option linter.unusedSimpArgs false
set_option linter.unusedVariables false

/-- The exact product of the clamped numbers by the third, rounded down and clamped; 0 by nought. -/
def mdv (a b c : Int) : Int := if c = 0 then 0 else cl ((cl a * cl b).fdiv (cl c))

/-- Quotients of numbers with signs by those without: where the quotient isn't below nought. -/
theorem fd_plus (A B C : Int) (h : C ≠ 0) (s : (A < 0 ↔ B < 0) ↔ 0 < C) : (A * B).fdiv C = ((A.natAbs * B.natAbs / C.natAbs : Nat) : Int) := by
  have hz : 0 < C.natAbs := by omega
  have e := Nat.div_add_mod (A.natAbs * B.natAbs) C.natAbs
  have hm := Nat.mod_lt (A.natAbs * B.natAbs) hz
  have hab : ((A.natAbs * B.natAbs : Nat) : Int) = ((A * B).natAbs : Int) := by rw [Int.natAbs_mul]
  generalize hp : A.natAbs * B.natAbs = p at *
  generalize hq : p / C.natAbs = q at *
  generalize hr : p % C.natAbs = r at *
  have e2 : ((C.natAbs : Int)) * (q : Int) + (r : Int) = (p : Int) := by rw [← e]; simp
  have sg : ((A < 0 ↔ B < 0) → 0 ≤ A * B) ∧ (¬ (A < 0 ↔ B < 0) → A * B ≤ 0) := by
    constructor
    · intro h
      by_cases ha : A < 0
      · exact Int.mul_nonneg_of_nonpos_of_nonpos (by omega) (by omega)
      · exact Int.mul_nonneg (by omega) (by omega)
    · intro h
      by_cases ha : A < 0
      · exact Int.mul_nonpos_of_nonpos_of_nonneg (by omega) (by omega)
      · exact Int.mul_nonpos_of_nonneg_of_nonpos (by omega) (by omega)
  generalize A * B = S at *
  by_cases hc : 0 < C
  · have hS := sg.1 (s.2 hc)
    have ec : ((C.natAbs : Int)) = C := by omega
    rw [ec] at e2
    exact (fd_uniq S C q r (by rw [Int.mul_comm]; omega) (Or.inl ⟨by omega, by omega⟩)).1
  · have hS := sg.2 (fun x => hc (s.1 x))
    have ec : ((C.natAbs : Int)) = -C := by omega
    rw [ec, Int.neg_mul] at e2
    exact (fd_uniq S C q (-r) (by rw [Int.mul_comm]; omega) (Or.inr ⟨by omega, by omega⟩)).1

/-- And where it is. -/
theorem fd_minus (A B C : Int) (h : C ≠ 0) (s : (A < 0 ↔ B < 0) ↔ C < 0) :
    (A.natAbs * B.natAbs % C.natAbs = 0 → (A * B).fdiv C = -((A.natAbs * B.natAbs / C.natAbs : Nat) : Int)) ∧
    (A.natAbs * B.natAbs % C.natAbs ≠ 0 → (A * B).fdiv C = -(((A.natAbs * B.natAbs / C.natAbs : Nat) : Int) + 1)) := by
  have hz : 0 < C.natAbs := by omega
  have e := Nat.div_add_mod (A.natAbs * B.natAbs) C.natAbs
  have hm := Nat.mod_lt (A.natAbs * B.natAbs) hz
  have hab : ((A.natAbs * B.natAbs : Nat) : Int) = ((A * B).natAbs : Int) := by rw [Int.natAbs_mul]
  generalize hp : A.natAbs * B.natAbs = p at *
  generalize hq : p / C.natAbs = q at *
  generalize hr : p % C.natAbs = r at *
  have e2 : ((C.natAbs : Int)) * (q : Int) + (r : Int) = (p : Int) := by rw [← e]; simp
  have sg : ((A < 0 ↔ B < 0) → 0 ≤ A * B) ∧ (¬ (A < 0 ↔ B < 0) → A * B ≤ 0) := by
    constructor
    · intro h
      by_cases ha : A < 0
      · exact Int.mul_nonneg_of_nonpos_of_nonpos (by omega) (by omega)
      · exact Int.mul_nonneg (by omega) (by omega)
    · intro h
      by_cases ha : A < 0
      · exact Int.mul_nonpos_of_nonpos_of_nonneg (by omega) (by omega)
      · exact Int.mul_nonpos_of_nonneg_of_nonpos (by omega) (by omega)
  generalize A * B = S at *
  by_cases hc : C < 0
  · have hS := sg.1 (s.2 hc)
    have ec : ((C.natAbs : Int)) = -C := by omega
    rw [ec, Int.neg_mul] at e2
    constructor
    · intro h0
      exact (fd_uniq S C (-q) 0 (by rw [Int.neg_mul, Int.mul_comm]; omega) (Or.inr ⟨by omega, by omega⟩)).1
    · intro h0
      exact (fd_uniq S C (-(q + 1)) (r + C) (by rw [Int.neg_mul, Int.add_mul, Int.mul_comm]; omega) (Or.inr ⟨by omega, by omega⟩)).1
  · have hS := sg.2 (fun x => hc (s.1 x))
    have ec : ((C.natAbs : Int)) = C := by omega
    rw [ec] at e2
    constructor
    · intro h0
      exact (fd_uniq S C (-q) 0 (by rw [Int.neg_mul, Int.mul_comm]; omega) (Or.inl ⟨by omega, by omega⟩)).1
    · intro h0
      exact (fd_uniq S C (-(q + 1)) (-r + C) (by rw [Int.neg_mul, Int.add_mul, Int.mul_comm]; omega) (Or.inl ⟨by omega, by omega⟩)).1

theorem cl_min (q : Int) (h0 : 0 ≤ q) : cl (min q 1152921504606846976) = cl q ∧ cl (-min q 1152921504606846976) = cl (-q) ∧ cl (-(min q 1152921504606846976 + 1)) = cl (-(q + 1)) := by
  by_cases h : q ≤ 1152921504606846976
  · rw [Int.min_eq_left h]; exact ⟨rfl, rfl, rfl⟩
  · rw [Int.min_eq_right (by omega)]
    refine ⟨?_, ?_, ?_⟩ <;> unfold cl <;> split <;> (try split) <;> (try split) <;> (try split) <;> omega

theorem div_great (p z : Nat) (hz : 0 < z) (h : z ≤ p / 18446744073709551616) : 18446744073709551616 ≤ p / z := by
  rw [Nat.le_div_iff_mul_le (by omega)] at h
  rw [Nat.le_div_iff_mul_le hz]
  rw [Nat.mul_comm]; exact h
theorem div_small (p z : Nat) (h : p / 18446744073709551616 < z) : p / z < 18446744073709551616 := by
  have hz : 0 < z := by omega
  rw [Nat.div_lt_iff_lt_mul (by omega)] at h
  rw [Nat.div_lt_iff_lt_mul hz]
  rw [Nat.mul_comm]; exact h

set_option maxRecDepth 100000 in
set_option maxHeartbeats 400000 in
theorem limit_t (w : World) : Calls Try.prog 90 #[.bool true] w fun e w' => e = .returned (.int .i64 (-1152921504606846976)) ∧ w' = w := by
  go_enter Try.func90, Try.ntmps90
  go_wp2
  go_ret
  exact ⟨rfl, rfl⟩
set_option maxRecDepth 100000 in
set_option maxHeartbeats 400000 in
theorem limit_f (w : World) : Calls Try.prog 90 #[.bool false] w fun e w' => e = .returned (.int .i64 1152921504606846976) ∧ w' = w := by
  go_enter Try.func90, Try.ntmps90
  go_wp2
  go_ret
  exact ⟨rfl, rfl⟩

set_option maxRecDepth 100000 in
set_option maxHeartbeats 400000 in
theorem muldiv_zero (a b c : Int) (w : World) (hc : (c == 0) = true) :
    Calls Try.prog 83 #[.int .i64 a, .int .i64 b, .int .i64 c] w fun e w' => e = .returned (.tuple #[.int .i64 0, .bool false]) ∧ ∃ n, w' = w.drewN n := by
  go_enter Try.func83, Try.ntmps83
  go_wp2_with fail
  go_ret2
  exact ⟨rfl, 0, rfl⟩
theorem ret_ib {k : IntKind} {a c : Int} {b : Bool} (h1 : a = c) : Ending.returned (.tuple #[.int k a, .bool b]) = .returned (.tuple #[.int k c, .bool b]) := by rw [h1]

set_option maxRecDepth 100000 in
set_option maxHeartbeats 4000000 in
theorem muldiv_minus (a b c R : Int) (w : World) (hc : (c == 0) = false) (hs : (cl a < 0 ∧ cl b < 0 ∧ cl c < 0) ∨ (cl a < 0 ∧ 0 ≤ cl b ∧ 0 ≤ cl c) ∨ (0 ≤ cl a ∧ cl b < 0 ∧ 0 ≤ cl c) ∨ (0 ≤ cl a ∧ 0 ≤ cl b ∧ cl c < 0)) (HR : Box (R = cl ((cl a * cl b).fdiv (cl c)))) :
    Calls Try.prog 83 #[.int .i64 a, .int .i64 b, .int .i64 c] w fun e w' => e = .returned (.tuple #[.int .i64 R, .bool true]) ∧ ∃ n, w' = w.drewN n := by
  rcases hs with ⟨s1, s2, s3⟩ | ⟨s1, s2, s3⟩ | ⟨s1, s2, s3⟩ | ⟨s1, s2, s3⟩ <;> (
  have ha := cl_le a
  have hb := cl_le b
  have hcl := cl_le c
  have hz : ¬ cl c = 0 := by rw [cl_zero]; simpa using hc
  have HF := hidq (fd_minus (cl a) (cl b) (cl c) hz (by omega))
  first | have D1 : decide (cl a < 0) = true := by simp; omega | have D1 : decide (cl a < 0) = false := by simp; omega
  first | have D2 : decide (cl b < 0) = true := by simp; omega | have D2 : decide (cl b < 0) = false := by simp; omega
  first | have D3 : decide (cl c < 0) = true := by simp; omega | have D3 : decide (cl c < 0) = false := by simp; omega
  go_enter Try.func83, Try.ntmps83
  go_wp2_with (first | (go_at_call 57; refine (clamp_any _ _).mono ?_; rintro e w' ⟨rfl, hw'⟩; subst w') | (go_at_call 89; refine (size_any _ _ (by omega) (by omega)).mono ?_; rintro e w' ⟨rfl, hw'⟩; subst w'))
  have hx : (cl a).natAbs ≤ 1152921504606846976 := by omega
  have hy : (cl b).natAbs ≤ 1152921504606846976 := by omega
  have hz1 : (cl c).natAbs ≤ 1152921504606846976 := by omega
  have hz0 : 0 < (cl c).natAbs := by omega
  refine (Try.bits_Mul64 _ _ (by omega) (by omega) _).mono ?_
  rintro e w' ⟨rfl, hw'⟩
  subst w'
  generalize hp : (cl a).natAbs * (cl b).natAbs = p at *
  have hpl : p ≤ 1329227995784915872903807060280344576 := by
    rw [← hp]; exact Nat.mul_le_mul hx hy
  clear hp
  have d1 : p / 18446744073709551616 ≤ 72057594037927936 := by omega
  have d2 : p % 18446744073709551616 ≤ 18446744073709551615 := by omega
  have HU : Box (p / 18446744073709551616 * 18446744073709551616 + p % 18446744073709551616 = p) := ⟨by have := Nat.div_add_mod p 18446744073709551616; rw [Nat.mul_comm] at this; exact this⟩
  have HG := hidq (div_great p _ hz0)
  have HS := hidq (div_small p (cl c).natAbs)
  generalize p / 18446744073709551616 = hi at *
  generalize p % 18446744073709551616 = lo at *
  by_cases hg : (cl c).natAbs ≤ hi
  · have hq := HG.out hg
    have g : (((cl c).natAbs : Nat) : Int) ≤ (hi : Int) := by omega
    have HL : Box (R = -1152921504606846976) := by
      refine ⟨?_⟩
      have hf := HF.out
      rw [HR.out]
      by_cases h0 : p % (cl c).natAbs = 0
      · rw [hf.1 h0]
        generalize p / (cl c).natAbs = q at *
        unfold cl; rw [if_pos (by omega)]
      · rw [hf.2 h0]
        generalize p / (cl c).natAbs = q at *
        unfold cl; rw [if_pos (by omega)]
    clear hq hg
    go_wp2_with (first | (go_at_call 89; refine (size_any _ _ (by omega) (by omega)).mono ?_; rintro e w' ⟨rfl, hw'⟩; subst w') | (go_at_call 90; refine (limit_t _).mono ?_; rintro e w' ⟨rfl, hw'⟩; subst w'))
    go_ret2
    exact ⟨ret_ib (by rw [HL.out]), 0, rfl⟩
  · have hq := HS.out (by omega)
    have g : (hi : Int) < (((cl c).natAbs : Nat) : Int) := by omega
    go_wp2_with (go_at_call 89; refine (size_any _ _ (by omega) (by omega)).mono ?_; rintro e w' ⟨rfl, hw'⟩; subst w')
    refine (div64_any hi lo _ _ (by omega) hz1 (by omega)).mono ?_
    rintro e w' ⟨rfl, n, rfl⟩
    rw [HU.out]
    clear HU
    have HF2 : Box ((p % (cl c).natAbs = 0 → R = cl (-((p / (cl c).natAbs : Nat) : Int))) ∧ (p % (cl c).natAbs ≠ 0 → R = cl (-(((p / (cl c).natAbs : Nat) : Int) + 1)))) := by
      refine ⟨?_⟩
      have hf := HF.out
      rw [HR.out]
      exact ⟨fun h => by rw [hf.1 h], fun h => by rw [hf.2 h]⟩
    generalize p / (cl c).natAbs = q at *
    generalize p % (cl c).natAbs = r at *
    have B1 : (0 : Int) ≤ (q : Int) ∧ (q : Int) ≤ 18446744073709551615 := by omega
    clear hq d1 d2 hpl g hg HF HG HS
    have HC := hidq (cl_min (q : Int) (by omega))
    by_cases h0 : r = 0
    · have k0 : ((r : Int) != 0) = false := by simpa using h0
      have HF3 : Box (R = cl (-(q : Int))) := ⟨HF2.out.1 h0⟩
      clear h0
      go_wp2_with (go_at_call 57; refine (clamp_any _ _).mono ?_; rintro e w' ⟨rfl, hw'⟩; subst w')
      go_ret2
      exact ⟨ret_ib (by rw [HF3.out, HC.out.2.1]), _, rfl⟩
    · have k0 : ((r : Int) != 0) = true := by simpa using h0
      have HF3 : Box (R = cl (-((q : Int) + 1))) := ⟨HF2.out.2 h0⟩
      clear h0
      go_wp2_with (go_at_call 57; refine (clamp_any _ _).mono ?_; rintro e w' ⟨rfl, hw'⟩; subst w')
      go_ret2
      exact ⟨ret_ib (by rw [HF3.out, HC.out.2.2]), _, rfl⟩)

set_option maxRecDepth 100000 in
set_option maxHeartbeats 4000000 in
theorem muldiv_plus (a b c R : Int) (w : World) (hc : (c == 0) = false) (hs : (cl a < 0 ∧ cl b < 0 ∧ 0 ≤ cl c) ∨ (cl a < 0 ∧ 0 ≤ cl b ∧ cl c < 0) ∨ (0 ≤ cl a ∧ cl b < 0 ∧ cl c < 0) ∨ (0 ≤ cl a ∧ 0 ≤ cl b ∧ 0 ≤ cl c)) (HR : Box (R = cl ((cl a * cl b).fdiv (cl c)))) :
    Calls Try.prog 83 #[.int .i64 a, .int .i64 b, .int .i64 c] w fun e w' => e = .returned (.tuple #[.int .i64 R, .bool true]) ∧ ∃ n, w' = w.drewN n := by
  rcases hs with ⟨s1, s2, s3⟩ | ⟨s1, s2, s3⟩ | ⟨s1, s2, s3⟩ | ⟨s1, s2, s3⟩ <;> (
  have ha := cl_le a
  have hb := cl_le b
  have hcl := cl_le c
  have hz : ¬ cl c = 0 := by rw [cl_zero]; simpa using hc
  have HF := hidq (fd_plus (cl a) (cl b) (cl c) hz (by omega))
  first | have D1 : decide (cl a < 0) = true := by simp; omega | have D1 : decide (cl a < 0) = false := by simp; omega
  first | have D2 : decide (cl b < 0) = true := by simp; omega | have D2 : decide (cl b < 0) = false := by simp; omega
  first | have D3 : decide (cl c < 0) = true := by simp; omega | have D3 : decide (cl c < 0) = false := by simp; omega
  go_enter Try.func83, Try.ntmps83
  go_wp2_with (first | (go_at_call 57; refine (clamp_any _ _).mono ?_; rintro e w' ⟨rfl, hw'⟩; subst w') | (go_at_call 89; refine (size_any _ _ (by omega) (by omega)).mono ?_; rintro e w' ⟨rfl, hw'⟩; subst w'))
  have hx : (cl a).natAbs ≤ 1152921504606846976 := by omega
  have hy : (cl b).natAbs ≤ 1152921504606846976 := by omega
  have hz1 : (cl c).natAbs ≤ 1152921504606846976 := by omega
  have hz0 : 0 < (cl c).natAbs := by omega
  refine (Try.bits_Mul64 _ _ (by omega) (by omega) _).mono ?_
  rintro e w' ⟨rfl, hw'⟩
  subst w'
  generalize hp : (cl a).natAbs * (cl b).natAbs = p at *
  have hpl : p ≤ 1329227995784915872903807060280344576 := by
    rw [← hp]; exact Nat.mul_le_mul hx hy
  clear hp
  have d1 : p / 18446744073709551616 ≤ 72057594037927936 := by omega
  have d2 : p % 18446744073709551616 ≤ 18446744073709551615 := by omega
  have HU : Box (p / 18446744073709551616 * 18446744073709551616 + p % 18446744073709551616 = p) := ⟨by have := Nat.div_add_mod p 18446744073709551616; rw [Nat.mul_comm] at this; exact this⟩
  have HG := hidq (div_great p _ hz0)
  have HS := hidq (div_small p (cl c).natAbs)
  generalize p / 18446744073709551616 = hi at *
  generalize p % 18446744073709551616 = lo at *
  by_cases hg : (cl c).natAbs ≤ hi
  · have hq := HG.out hg
    have g : (((cl c).natAbs : Nat) : Int) ≤ (hi : Int) := by omega
    have HL : Box (R = 1152921504606846976) := by
      refine ⟨?_⟩
      have hf := HF.out
      rw [HR.out]
      rw [hf]
      generalize p / (cl c).natAbs = q at *
      unfold cl; rw [if_neg (by omega), if_pos (by omega)]
    clear hq hg
    go_wp2_with (first | (go_at_call 89; refine (size_any _ _ (by omega) (by omega)).mono ?_; rintro e w' ⟨rfl, hw'⟩; subst w') | (go_at_call 90; refine (limit_f _).mono ?_; rintro e w' ⟨rfl, hw'⟩; subst w'))
    go_ret2
    exact ⟨ret_ib (by rw [HL.out]), 0, rfl⟩
  · have hq := HS.out (by omega)
    have g : (hi : Int) < (((cl c).natAbs : Nat) : Int) := by omega
    go_wp2_with (go_at_call 89; refine (size_any _ _ (by omega) (by omega)).mono ?_; rintro e w' ⟨rfl, hw'⟩; subst w')
    refine (div64_any hi lo _ _ (by omega) hz1 (by omega)).mono ?_
    rintro e w' ⟨rfl, n, rfl⟩
    rw [HU.out]
    clear HU
    have HF2 : Box (R = cl ((p / (cl c).natAbs : Nat) : Int)) := by
      refine ⟨?_⟩
      have hf := HF.out
      rw [HR.out]
      rw [hf]
    generalize p / (cl c).natAbs = q at *
    generalize p % (cl c).natAbs = r at *
    have B1 : (0 : Int) ≤ (q : Int) ∧ (q : Int) ≤ 18446744073709551615 := by omega
    clear hq d1 d2 hpl g hg HF HG HS
    have HC := hidq (cl_min (q : Int) (by omega))
    go_wp2_with (go_at_call 57; refine (clamp_any _ _).mono ?_; rintro e w' ⟨rfl, hw'⟩; subst w')
    go_ret2
    exact ⟨ret_ib (by rw [HF2.out, HC.out.1]), _, rfl⟩)

theorem muldiv_some (a b c : Int) (w : World) (hc : (c == 0) = false) :
    Calls Try.prog 83 #[.int .i64 a, .int .i64 b, .int .i64 c] w fun e w' => e = .returned (.tuple #[.int .i64 (cl ((cl a * cl b).fdiv (cl c))), .bool true]) ∧ ∃ n, w' = w.drewN n := by
  by_cases s1 : cl a < 0 <;> by_cases s2 : cl b < 0 <;> by_cases s3 : cl c < 0 <;> first | exact muldiv_minus a b c _ w hc (by omega) ⟨rfl⟩ | exact muldiv_plus a b c _ w hc (by omega) ⟨rfl⟩

theorem muldiv_any (a b c : Int) (w : World) :
    Calls Try.prog 83 #[.int .i64 a, .int .i64 b, .int .i64 c] w fun e w' => e = .returned (.tuple #[.int .i64 (mdv a b c), .bool (nz c)]) ∧ ∃ n, w' = w.drewN n := by
  by_cases h : c = 0
  · have e1 : mdv a b c = 0 := by simp [mdv, h]
    rw [e1, nz_f c h]
    exact muldiv_zero a b c w (by simpa using h)
  · have e1 : mdv a b c = cl ((cl a * cl b).fdiv (cl c)) := by simp [mdv, h]
    rw [e1, nz_t c h]
    exact muldiv_some a b c w (by simpa using h)
end Go.Proofs.Ytcdcpmcjlchfgaa.Sc
