/-
  What product and Less (the program's and the document's) answer: product: the exact product of two clamped numbers by its upper and lower words; Less: whether the one product is less than the other.
-/
import Derived.Test.YtkpikienkmdcaaaV
import Derived.Test.YtkpikienkmdcaaaQ
import Derived.Test.YtkpikienkmdcaaaG
namespace Go.Proofs.Ytkpikienkmdcaaa
open Go.RowKit
set_option linter.unusedSimpArgs false
set_option linter.unusedVariables false

theorem mul_bound (a b : Int) (ha : -1152921504606846976 ≤ a ∧ a ≤ 1152921504606846976) (hb : -1152921504606846976 ≤ b ∧ b ≤ 1152921504606846976) :
    -1329227995784915872903807060280344576 ≤ a * b ∧ a * b ≤ 1329227995784915872903807060280344576 := by
  have h : (a * b).natAbs ≤ 1152921504606846976 * 1152921504606846976 := by
    rw [Int.natAbs_mul]; exact Nat.mul_le_mul (by omega) (by omega)
  omega

/-- The upper word with its sign out of the words without. -/
theorem word_pp (A B : Nat) (h : A * B ≤ 1329227995784915872903807060280344576) : ((A * B / 18446744073709551616 : Nat) : Int) = ((A : Int) * (B : Int)) / 18446744073709551616 ∧ ((A * B % 18446744073709551616 : Nat) : Int) = ((A : Int) * (B : Int)) % 18446744073709551616 := by
  rw [← Int.natCast_mul]
  generalize A * B = P at *
  omega
theorem word_np (a : Int) (A B : Nat) (hA : (A : Int) = a + 18446744073709551616) (h : -1329227995784915872903807060280344576 ≤ a * B ∧ a * B ≤ 1329227995784915872903807060280344576) :
    wrap64 (IntKind.u64.wrap (((A * B / 18446744073709551616 : Nat) : Int) - (B : Int))) = (a * (B : Int)) / 18446744073709551616 ∧ ((A * B % 18446744073709551616 : Nat) : Int) = (a * (B : Int)) % 18446744073709551616 := by
  have e : ((A * B : Nat) : Int) = a * B + 18446744073709551616 * B := by rw [Int.natCast_mul, hA, Int.add_mul]
  generalize A * B = P at *
  generalize a * (B : Int) = z at *
  rw [IntKind.wrap_u64]
  unfold wrap64
  omega
theorem word_pn (b : Int) (A B : Nat) (hB : (B : Int) = b + 18446744073709551616) (h : -1329227995784915872903807060280344576 ≤ A * b ∧ A * b ≤ 1329227995784915872903807060280344576) :
    wrap64 (IntKind.u64.wrap (((A * B / 18446744073709551616 : Nat) : Int) - (A : Int))) = ((A : Int) * b) / 18446744073709551616 ∧ ((A * B % 18446744073709551616 : Nat) : Int) = ((A : Int) * b) % 18446744073709551616 := by
  have e : ((A * B : Nat) : Int) = A * b + A * 18446744073709551616 := by rw [Int.natCast_mul, hB, Int.mul_add]
  generalize A * B = P at *
  generalize (A : Int) * b = z at *
  rw [IntKind.wrap_u64]
  unfold wrap64
  omega
theorem word_nn (a b : Int) (A B : Nat) (hA : (A : Int) = a + 18446744073709551616) (hB : (B : Int) = b + 18446744073709551616) (h : -1329227995784915872903807060280344576 ≤ a * b ∧ a * b ≤ 1329227995784915872903807060280344576) :
    wrap64 (IntKind.u64.wrap (IntKind.u64.wrap (((A * B / 18446744073709551616 : Nat) : Int) - (B : Int)) - (A : Int))) = (a * b) / 18446744073709551616 ∧ ((A * B % 18446744073709551616 : Nat) : Int) = (a * b) % 18446744073709551616 := by
  have e : ((A * B : Nat) : Int) = a * b + a * 18446744073709551616 + (b + 18446744073709551616) * 18446744073709551616 := by
    rw [Int.natCast_mul, hA, hB, Int.add_mul, Int.mul_add, Int.mul_add, Int.add_mul, Int.mul_comm 18446744073709551616 b]
    try omega
  generalize A * B = P at *
  generalize a * b = z at *
  simp only [IntKind.wrap_u64]
  unfold wrap64
  omega

set_option maxHeartbeats 400000 in
theorem product_core (a b h l : Int) (w : World) (ha : -1152921504606846976 ≤ a ∧ a ≤ 1152921504606846976) (hb : -1152921504606846976 ≤ b ∧ b ≤ 1152921504606846976)
    (HH : Box (h = (a * b) / 18446744073709551616)) (HL : Box (l = (a * b) % 18446744073709551616)) :
    Calls Try.prog 42 #[.int .i64 a, .int .i64 b] w fun e w' => e = .returned (.tuple #[.int .i64 h, .int .u64 l]) ∧ w' = w := by
  have hm := mul_bound a b ha hb
  by_cases s1 : 0 ≤ a
  · obtain ⟨A, rfl⟩ := Int.eq_ofNat_of_zero_le s1
    by_cases s2 : 0 ≤ b
    · obtain ⟨B, rfl⟩ := Int.eq_ofNat_of_zero_le s2
      have HW := hidq (word_pp A B (by rw [← Int.natCast_mul] at hm; omega))
      have hp : A * B / 18446744073709551616 ≤ 72057594037927936 := by rw [← Int.natCast_mul] at hm; omega
      clear hm
      go_enter Try.func42, Try.ntmps42
      go_wp2_with fail
      refine (Try.bits_Mul64 A B (by omega) (by omega) _).mono ?_
      rintro e w' ⟨rfl, hw'⟩
      subst w'
      generalize A * B / 18446744073709551616 = hi at *
      generalize A * B % 18446744073709551616 = lo at *
      go_wp2_with fail
      go_ret2
      exact ⟨ret_two (by rw [HH.out, HW.out.1]) (by rw [HL.out, HW.out.2]), rfl⟩
    · obtain ⟨B, hB⟩ : ∃ B : Nat, (B : Int) = b + 18446744073709551616 := ⟨(b + 18446744073709551616).toNat, by omega⟩
      have HW := hidq (word_pn b A B hB hm)
      have E1 : IntKind.u64.wrap b = (B : Int) := by rw [IntKind.wrap_u64]; omega
      have hB2 : B < 18446744073709551616 := by omega
      have hp : A * B / 18446744073709551616 < 18446744073709551616 := by
        have : A * B ≤ 1152921504606846976 * 18446744073709551615 := Nat.mul_le_mul (by omega) (by omega)
        omega
      clear hm hB
      go_enter Try.func42, Try.ntmps42
      go_wp2_with fail
      refine (Try.bits_Mul64 A B (by omega) (by omega) _).mono ?_
      rintro e w' ⟨rfl, hw'⟩
      subst w'
      generalize A * B / 18446744073709551616 = hi at *
      generalize A * B % 18446744073709551616 = lo at *
      go_wp2_with fail
      go_ret2
      refine ⟨ret_two ?_ ?_, rfl⟩
      · rw [HH.out, ← HW.out.1]
      · rw [HL.out, HW.out.2]
  · obtain ⟨A, hA⟩ : ∃ A : Nat, (A : Int) = a + 18446744073709551616 := ⟨(a + 18446744073709551616).toNat, by omega⟩
    have E1 : IntKind.u64.wrap a = (A : Int) := by rw [IntKind.wrap_u64]; omega
    have hA2 : A < 18446744073709551616 := by omega
    by_cases s2 : 0 ≤ b
    · obtain ⟨B, rfl⟩ := Int.eq_ofNat_of_zero_le s2
      have HW := hidq (word_np a A B hA hm)
      have hp : A * B / 18446744073709551616 < 18446744073709551616 := by
        have : A * B ≤ 18446744073709551615 * 1152921504606846976 := Nat.mul_le_mul (by omega) (by omega)
        omega
      clear hm hA
      go_enter Try.func42, Try.ntmps42
      go_wp2_with fail
      refine (Try.bits_Mul64 A B (by omega) (by omega) _).mono ?_
      rintro e w' ⟨rfl, hw'⟩
      subst w'
      generalize A * B / 18446744073709551616 = hi at *
      generalize A * B % 18446744073709551616 = lo at *
      go_wp2_with fail
      go_ret2
      refine ⟨ret_two ?_ ?_, rfl⟩
      · rw [HH.out, ← HW.out.1]
      · rw [HL.out, HW.out.2]
    · obtain ⟨B, hB⟩ : ∃ B : Nat, (B : Int) = b + 18446744073709551616 := ⟨(b + 18446744073709551616).toNat, by omega⟩
      have E2 : IntKind.u64.wrap b = (B : Int) := by rw [IntKind.wrap_u64]; omega
      have hB2 : B < 18446744073709551616 := by omega
      have HW := hidq (word_nn a b A B hA hB hm)
      have hp : A * B / 18446744073709551616 < 18446744073709551616 := by
        have : A * B ≤ 18446744073709551615 * 18446744073709551615 := Nat.mul_le_mul (by omega) (by omega)
        omega
      clear hm hA hB
      go_enter Try.func42, Try.ntmps42
      go_wp2_with fail
      refine (Try.bits_Mul64 A B (by omega) (by omega) _).mono ?_
      rintro e w' ⟨rfl, hw'⟩
      subst w'
      generalize A * B / 18446744073709551616 = hi at *
      generalize A * B % 18446744073709551616 = lo at *
      go_wp2_with fail
      go_ret2
      refine ⟨ret_two ?_ ?_, rfl⟩
      · rw [HH.out, ← HW.out.1]
      · rw [HL.out, HW.out.2]

/-- Is the first by the second less than the third by the fourth? -/
def ls (a b c d : Int) : Bool := decide (cl a * cl d < cl c * cl b)
theorem ls_words (x y : Int) : decide (x < y) = (decide (x / 18446744073709551616 < y / 18446744073709551616) || (x / 18446744073709551616 == y / 18446744073709551616 && decide (x % 18446744073709551616 < y % 18446744073709551616))) := by
  rw [Bool.eq_iff_iff]
  simp
  omega

set_option maxHeartbeats 800000 in
theorem less_any (a b c d : Int) (w : World) :
    Calls Try.prog 29 #[.int .i64 a, .int .i64 b, .int .i64 c, .int .i64 d] w fun e w' => e = .returned (.bool (ls a b c d)) ∧ w' = w := by
  have h1 := cl_le a
  have h2 := cl_le b
  have h3 := cl_le c
  have h4 := cl_le d
  have HL : Box (ls a b c d = (decide (cl a * cl d / 18446744073709551616 < cl c * cl b / 18446744073709551616) || (cl a * cl d / 18446744073709551616 == cl c * cl b / 18446744073709551616 && decide (cl a * cl d % 18446744073709551616 < cl c * cl b % 18446744073709551616)))) := ⟨ls_words _ _⟩
  obtain ⟨x1, X1⟩ : ∃ x1, Box (x1 = cl a * cl d / 18446744073709551616) := ⟨_, ⟨rfl⟩⟩
  obtain ⟨x0, X0⟩ : ∃ x0, Box (x0 = cl a * cl d % 18446744073709551616) := ⟨_, ⟨rfl⟩⟩
  obtain ⟨y1, Y1⟩ : ∃ y1, Box (y1 = cl c * cl b / 18446744073709551616) := ⟨_, ⟨rfl⟩⟩
  obtain ⟨y0, Y0⟩ : ∃ y0, Box (y0 = cl c * cl b % 18446744073709551616) := ⟨_, ⟨rfl⟩⟩
  have HL2 : Box (ls a b c d = (decide (x1 < y1) || (x1 == y1 && decide (x0 < y0)))) := ⟨by rw [X1.out, X0.out, Y1.out, Y0.out]; exact HL.out⟩
  clear HL
  by_cases t1 : x1 < y1
  · go_enter Try.func29, Try.ntmps29
    go_wp2_with (go_at_call 11; refine (clamp_any _ _).mono ?_; rintro e w' ⟨rfl, hw'⟩; subst w')
    refine (product_core _ _ x1 x0 _ h1 h4 X1 X0).mono ?_
    rintro e w' ⟨rfl, hw'⟩
    subst w'
    go_wp2_with (go_at_call 11; refine (clamp_any _ _).mono ?_; rintro e w' ⟨rfl, hw'⟩; subst w')
    refine (product_core _ _ y1 y0 _ h3 h2 Y1 Y0).mono ?_
    rintro e w' ⟨rfl, hw'⟩
    subst w'
    have g : decide (x1 < y1) = true := by simpa using t1
    go_wp2_with fail
    go_ret
    exact ⟨ret_bool (by rw [HL2.out, g]; rfl), rfl⟩
  · by_cases t2 : x1 = y1
    · by_cases t3 : x0 < y0
      · have g1 : decide (x1 < y1) = false := by simpa using t1
        have g2 : (x1 == y1) = true := by simpa using t2
        have g3 : decide (x0 < y0) = true := by simpa using t3
        clear t2
        go_enter Try.func29, Try.ntmps29
        go_wp2_with (go_at_call 11; refine (clamp_any _ _).mono ?_; rintro e w' ⟨rfl, hw'⟩; subst w')
        refine (product_core _ _ x1 x0 _ h1 h4 X1 X0).mono ?_
        rintro e w' ⟨rfl, hw'⟩
        subst w'
        go_wp2_with (go_at_call 11; refine (clamp_any _ _).mono ?_; rintro e w' ⟨rfl, hw'⟩; subst w')
        refine (product_core _ _ y1 y0 _ h3 h2 Y1 Y0).mono ?_
        rintro e w' ⟨rfl, hw'⟩
        subst w'
        go_wp2_with fail
        go_ret
        exact ⟨ret_bool (by rw [HL2.out, g1, g2, g3]; rfl), rfl⟩
      · have g1 : decide (x1 < y1) = false := by simpa using t1
        have g2 : (x1 == y1) = true := by simpa using t2
        have g3 : decide (x0 < y0) = false := by simpa using t3
        clear t2
        go_enter Try.func29, Try.ntmps29
        go_wp2_with (go_at_call 11; refine (clamp_any _ _).mono ?_; rintro e w' ⟨rfl, hw'⟩; subst w')
        refine (product_core _ _ x1 x0 _ h1 h4 X1 X0).mono ?_
        rintro e w' ⟨rfl, hw'⟩
        subst w'
        go_wp2_with (go_at_call 11; refine (clamp_any _ _).mono ?_; rintro e w' ⟨rfl, hw'⟩; subst w')
        refine (product_core _ _ y1 y0 _ h3 h2 Y1 Y0).mono ?_
        rintro e w' ⟨rfl, hw'⟩
        subst w'
        go_wp2_with fail
        go_ret
        exact ⟨ret_bool (by rw [HL2.out, g1, g2, g3]; rfl), rfl⟩
    · have g1 : decide (x1 < y1) = false := by simpa using t1
      have g2 : (x1 == y1) = false := by simpa using t2
      go_enter Try.func29, Try.ntmps29
      go_wp2_with (go_at_call 11; refine (clamp_any _ _).mono ?_; rintro e w' ⟨rfl, hw'⟩; subst w')
      refine (product_core _ _ x1 x0 _ h1 h4 X1 X0).mono ?_
      rintro e w' ⟨rfl, hw'⟩
      subst w'
      go_wp2_with (go_at_call 11; refine (clamp_any _ _).mono ?_; rintro e w' ⟨rfl, hw'⟩; subst w')
      refine (product_core _ _ y1 y0 _ h3 h2 Y1 Y0).mono ?_
      rintro e w' ⟨rfl, hw'⟩
      subst w'
      go_wp2_with fail
      go_ret
      exact ⟨ret_bool (by rw [HL2.out, g1, g2]; rfl), rfl⟩
end Go.Proofs.Ytkpikienkmdcaaa
