/-
  What the program's read and First answer for every text, in one row.
-/
import Derived.Test.YtflhefgmgdgffaaDoorUc
namespace Go.Proofs.YtflhefgmgdgffaaDoor
open Go.RowKit
set_option linter.unusedSimpArgs false
set_option linter.unusedVariables false

theorem beq_t (k n : Nat) (h : n = k) : ((k : Int) == (n : Int)) = true := by subst h; simp
theorem beq_f (k n : Nat) (h : n ≠ k) : ((k : Int) == (n : Int)) = false := by simp; omega
theorem ins_nf (c : Nat) (h : ¬ (128 ≤ c ∧ c < 192)) : ins (c : Int) = false := by
  cases e : ins (c : Int) with
  | false => rfl
  | true => exact absurd ((ins_nat c).1 e) h

theorem read_any (s : ByteArray) (w : World) (hs : s.size ≤ maxLen) :
    Calls Tryd.prog 59 #[.string s] w fun e w' => e = .returned (.tuple #[.int .i32 ((dc s 0).1 : Int), .int .i64 ((dc s 0).2 : Int)]) ∧ w' = w := by
  have zero : dc s 0 = (0, 0) → (Calls Tryd.prog 59 #[.string s] w fun e w' => e = .returned (.tuple #[.int .i32 0, .int .i64 0]) ∧ w' = w) →
      Calls Tryd.prog 59 #[.string s] w fun e w' => e = .returned (.tuple #[.int .i32 ((dc s 0).1 : Int), .int .i64 ((dc s 0).2 : Int)]) ∧ w' = w := by
    intro h1 h2; rw [h1]; exact h2
  have some : ∀ (v : Int) (r n : Nat), dc s 0 = (r, n) → v = (r : Int) → (Calls Tryd.prog 59 #[.string s] w fun e w' => e = .returned (.tuple #[.int .i32 v, .int .i64 n]) ∧ w' = w) →
      Calls Tryd.prog 59 #[.string s] w fun e w' => e = .returned (.tuple #[.int .i32 ((dc s 0).1 : Int), .int .i64 ((dc s 0).2 : Int)]) ∧ w' = w := by
    intro v r n h1 h2 h3; rw [h1]; subst h2; exact h3
  by_cases k0 : 0 < s.size
  rotate_left
  · refine zero (dc_out s 0 k0) (read_e s w hs ?_)
    rw [← decide_eq_emptyBytes]
    simp only [decide_eq_true_eq]
    have : s.size = 0 := by omega
    exact ByteArray.ext (Array.eq_empty_of_size_eq_zero this)
  have he := not_empty s k0
  have q0 := bt_in s 0 k0
  have l0 := bt_lt s 0 k0
  have D : dc s 0 = dec (bt s 0) (bt s 1) (bt s 2) (bt s 3) := rfl
  obtain ⟨b0, B0⟩ : ∃ b, bt s 0 = b := ⟨_, rfl⟩
  obtain ⟨b1, B1⟩ : ∃ b, bt s 1 = b := ⟨_, rfl⟩
  obtain ⟨b2, B2⟩ : ∃ b, bt s 2 = b := ⟨_, rfl⟩
  obtain ⟨b3, B3⟩ : ∃ b, bt s 3 = b := ⟨_, rfl⟩
  rw [B0, B1, B2, B3] at D
  rw [B0] at q0 l0
  by_cases c0 : b0 < 128
  · exact some _ _ 1 (D.trans (dec1 c0)) rfl (read_1 s w hs he b0 k0 q0.symm c0 (isR_mk _ (by omega)))
  by_cases c1 : b0 < 192
  · exact zero (D.trans (dec0 (by omega) (by omega) (by omega) (by omega))) (read_x s w hs he b0 k0 q0.symm ⟨by omega, c1⟩)
  by_cases c2 : 248 ≤ b0
  · exact zero (D.trans (dec0 (by omega) (by omega) (by omega) (by omega))) (read_y s w hs he b0 k0 q0.symm ⟨by omega, by omega⟩)
  by_cases k1 : 1 < s.size
  rotate_left
  · have hb1 := bt_out s 1 k1
    have Z := zero (D.trans (dec0 (by omega) (by omega) (by omega) (by omega)))
    have n1 := beq_t 1 s.size (by omega)
    by_cases c3 : b0 < 224
    · exact Z (read_2s1 s w hs he b0 k0 q0.symm ⟨by omega, c3⟩ n1)
    by_cases c4 : b0 < 240
    · exact Z (read_3s1 s w hs he b0 k0 q0.symm ⟨by omega, c4⟩ n1)
    · exact Z (read_4s1 s w hs he b0 k0 q0.symm ⟨by omega, by omega⟩ n1)
  have n1 := beq_f 1 s.size (by omega)
  have q1 := bt_in s 1 k1
  have l1 := bt_lt s 1 k1
  rw [B1] at q1 l1
  by_cases c3 : b0 < 224
  · by_cases i1 : 128 ≤ b1 ∧ b1 < 192
    rotate_left
    · exact zero (D.trans (dec0 (by omega) (by omega) (by omega) (by omega))) (read_2n1 s w hs he b0 b1 k1 q0.symm q1.symm ⟨by omega, c3⟩ n1 (ins_nf b1 i1))
    by_cases g : 128 ≤ (b0 - 192) * 64 + (b1 - 128)
    · exact some _ _ 2 (D.trans (dec2 ⟨by omega, c3⟩ i1 g)) (by omega) (read_2ok s w hs he b0 b1 k1 q0.symm q1.symm ⟨by omega, c3⟩ n1 ((ins_nat b1).2 i1) i1 (decide_eq_true (by omega)) (isR_mk _ (by omega)))
    · exact zero (D.trans (dec0 (by omega) (by omega) (by omega) (by omega))) (read_2g s w hs he b0 b1 k1 q0.symm q1.symm ⟨by omega, c3⟩ n1 ((ins_nat b1).2 i1) i1 (decide_eq_false (by omega)))
  by_cases i1 : 128 ≤ b1 ∧ b1 < 192
  rotate_left
  · have Z := zero (D.trans (dec0 (by omega) (by omega) (by omega) (by omega)))
    by_cases c4 : b0 < 240
    · exact Z (read_3n1 s w hs he b0 b1 k1 q0.symm q1.symm ⟨by omega, c4⟩ n1 (ins_nf b1 i1))
    · exact Z (read_4n1 s w hs he b0 b1 k1 q0.symm q1.symm ⟨by omega, by omega⟩ n1 (ins_nf b1 i1))
  have I1 := (ins_nat b1).2 i1
  by_cases k2 : 2 < s.size
  rotate_left
  · have hb2 := bt_out s 2 k2
    have Z := zero (D.trans (dec0 (by omega) (by omega) (by omega) (by omega)))
    have n2 := beq_t 2 s.size (by omega)
    by_cases c4 : b0 < 240
    · exact Z (read_3s2 s w hs he b0 b1 k1 q0.symm q1.symm ⟨by omega, c4⟩ n1 I1 i1 n2)
    · exact Z (read_4s2 s w hs he b0 b1 k1 q0.symm q1.symm ⟨by omega, by omega⟩ n1 I1 i1 n2)
  have n2 := beq_f 2 s.size (by omega)
  have q2 := bt_in s 2 k2
  rw [B2] at q2
  by_cases i2 : 128 ≤ b2 ∧ b2 < 192
  rotate_left
  · have Z := zero (D.trans (dec0 (by omega) (by omega) (by omega) (by omega)))
    by_cases c4 : b0 < 240
    · exact Z (read_3n2 s w hs he b0 b1 b2 k2 q0.symm q1.symm q2.symm ⟨by omega, c4⟩ n1 I1 i1 n2 (ins_nf b2 i2))
    · exact Z (read_4n2 s w hs he b0 b1 b2 k2 q0.symm q1.symm q2.symm ⟨by omega, by omega⟩ n1 I1 i1 n2 (ins_nf b2 i2))
  have I2 := (ins_nat b2).2 i2
  by_cases c4 : b0 < 240
  · by_cases g : 2048 ≤ (b0 - 224) * 4096 + (b1 - 128) * 64 + (b2 - 128)
    rotate_left
    · exact zero (D.trans (dec0 (by omega) (by omega) (by omega) (by omega))) (read_3g s w hs he b0 b1 b2 k2 q0.symm q1.symm q2.symm ⟨by omega, c4⟩ n1 I1 i1 n2 I2 i2 (decide_eq_false (by omega)))
    have G : decide ((2048 : Int) ≤ (((b0 : Int) % 16) * 64 + (b1 : Int) % 64) * 64 + (b2 : Int) % 64) = true := decide_eq_true (by omega)
    cases x : isR ((((b0 : Int) % 16) * 64 + (b1 : Int) % 64) * 64 + (b2 : Int) % 64) with
    | true =>
      have := isR_t _ x
      exact some _ _ 3 (D.trans (dec3 ⟨by omega, c4⟩ i1 i2 g (by omega))) (by omega) (read_3ok s w hs he b0 b1 b2 k2 q0.symm q1.symm q2.symm ⟨by omega, c4⟩ n1 I1 i1 n2 I2 i2 G x)
    | false =>
      have := isR_f _ x
      exact zero (D.trans (dec0 (by omega) (by omega) (by omega) (by omega))) (read_3r s w hs he b0 b1 b2 k2 q0.symm q1.symm q2.symm ⟨by omega, c4⟩ n1 I1 i1 n2 I2 i2 G x)
  by_cases k3 : 3 < s.size
  rotate_left
  · have hb3 := bt_out s 3 k3
    exact zero (D.trans (dec0 (by omega) (by omega) (by omega) (by omega))) (read_4s3 s w hs he b0 b1 b2 k2 q0.symm q1.symm q2.symm ⟨by omega, by omega⟩ n1 I1 i1 n2 I2 i2 (beq_t 3 s.size (by omega)))
  have n3 := beq_f 3 s.size (by omega)
  have q3 := bt_in s 3 k3
  rw [B3] at q3
  by_cases i3 : 128 ≤ b3 ∧ b3 < 192
  rotate_left
  · exact zero (D.trans (dec0 (by omega) (by omega) (by omega) (by omega))) (read_4n3 s w hs he b0 b1 b2 b3 k3 q0.symm q1.symm q2.symm q3.symm ⟨by omega, by omega⟩ n1 I1 i1 n2 I2 i2 n3 (ins_nf b3 i3))
  have I3 := (ins_nat b3).2 i3
  by_cases g : 65536 ≤ (b0 - 240) * 262144 + (b1 - 128) * 4096 + (b2 - 128) * 64 + (b3 - 128)
  rotate_left
  · exact zero (D.trans (dec0 (by omega) (by omega) (by omega) (by omega))) (read_4g s w hs he b0 b1 b2 b3 k3 q0.symm q1.symm q2.symm q3.symm ⟨by omega, by omega⟩ n1 I1 i1 n2 I2 i2 n3 I3 i3 (decide_eq_false (by omega)))
  have G : decide ((65536 : Int) ≤ ((((b0 : Int) % 8) * 64 + (b1 : Int) % 64) * 64 + (b2 : Int) % 64) * 64 + (b3 : Int) % 64) = true := decide_eq_true (by omega)
  cases x : isR (((((b0 : Int) % 8) * 64 + (b1 : Int) % 64) * 64 + (b2 : Int) % 64) * 64 + (b3 : Int) % 64) with
  | true =>
    have := isR_t _ x
    exact some _ _ 4 (D.trans (dec4 ⟨by omega, by omega⟩ i1 i2 i3 g (by omega))) (by omega) (read_4ok s w hs he b0 b1 b2 b3 k3 q0.symm q1.symm q2.symm q3.symm ⟨by omega, by omega⟩ n1 I1 i1 n2 I2 i2 n3 I3 i3 G x)
  | false =>
    have := isR_f _ x
    exact zero (D.trans (dec0 (by omega) (by omega) (by omega) (by omega))) (read_4r s w hs he b0 b1 b2 b3 k3 q0.symm q1.symm q2.symm q3.symm ⟨by omega, by omega⟩ n1 I1 i1 n2 I2 i2 n3 I3 i3 G x)
end Go.Proofs.YtflhefgmgdgffaaDoor
