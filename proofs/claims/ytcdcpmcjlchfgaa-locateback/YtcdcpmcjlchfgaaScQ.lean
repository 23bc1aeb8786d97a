/-
  What math/bits.Div64 answers where the upper word is less than the divisor, the divisor at most 2 to the 60: quotient and rest of the two words.
-/
import Derived.Test.YtcdcpmcjlchfgaaScB
import Derived.Test.YtcdcpmcjlchfgaaScK
import Derived.Test.YtcdcpmcjlchfgaaM
namespace Go.Proofs.Ytcdcpmcjlchfgaa.Sc
open Go.RowKit
set_option linter.unusedSimpArgs false
set_option linter.unusedVariables false

/-- A fact kept from the walk, and from every look that lays definitions open. -/
structure Box (p : Prop) : Prop where
  out : p
theorem hidq {p : Prop} (h : p) : Box p := ⟨h⟩

theorem ret_two {k k' : IntKind} {a b c d : Int} (h1 : a = c) (h2 : b = d) : Ending.returned (.tuple #[.int k a, .int k' b]) = .returned (.tuple #[.int k c, .int k' d]) := by rw [h1, h2]

set_option maxRecDepth 100000 in
set_option maxHeartbeats 400000 in
theorem div64_low (lo y : Nat) (w : World) (hy : 0 < y) (hy2 : y ≤ 1152921504606846976) (hl : lo < 18446744073709551616) :
    Calls Try.prog 91 #[.int .u64 0, .int .u64 lo, .int .u64 y] w fun e w' => e = .returned (.tuple #[.int .u64 ((lo / y : Nat) : Int), .int .u64 ((lo % y : Nat) : Int)]) ∧ ∃ n, w' = w.drewN n := by
  have h0 : ((y : Int) == 0) = false := by simp; omega
  have h1 : ¬ ((y : Int) ≤ 0) := by omega
  go_enter Try.func91, Try.ntmps91
  go_wp2_with fail
  go_quiet (fail)
  go_wp2_with fail
  go_ret2
  refine ⟨?_, _, rfl⟩
  have hq : lo / y ≤ lo := Nat.div_le_self _ _
  have e1 : IntKind.u64.wrap ((lo : Int) / (y : Int)) = (lo : Int) / (y : Int) := by
    rw [← Int.natCast_ediv]
    generalize lo / y = z at *
    rw [IntKind.wrap_u64]; omega
  simp [e1]

/-- What is left of a word and a half behind the product is taken off, though each of the two passes the word. -/
theorem rest_word (u v Q Y R : Nat) (h : u * 4294967296 + v = Q * Y + R) (hR : R < 18446744073709551616) :
    IntKind.u64.wrap (IntKind.u64.wrap (IntKind.u64.wrap ((u : Int) * 4294967296) + (v : Int)) - IntKind.u64.wrap ((Q : Int) * (Y : Int))) = (R : Int) := by
  have e : (Q : Int) * (Y : Int) = ((Q * Y : Nat) : Int) := (Int.natCast_mul Q Y).symm
  rw [e]
  generalize Q * Y = P at *
  simp only [IntKind.wrap_u64]
  omega

/-- The five ways through a round. -/
theorem ways (q r v y1 y0 : Nat) : (4294967296 ≤ q ∧ r + y1 < 4294967296) ∨ (q < 4294967296 ∧ 4294967296 * r + v < q * y0 ∧ r + y1 < 4294967296) ∨
    (4294967296 ≤ q ∧ 4294967296 ≤ r + y1) ∨ (q < 4294967296 ∧ 4294967296 * r + v < q * y0 ∧ 4294967296 ≤ r + y1) ∨ (q < 4294967296 ∧ q * y0 ≤ 4294967296 * r + v) := by omega
theorem mul_half (q y0 : Nat) (h : q < 4294967296) (h0 : y0 < 4294967296) : (0 : Int) ≤ (q : Int) * (y0 : Int) ∧ (q : Int) * (y0 : Int) ≤ 18446744073709551615 := by
  have : q * y0 ≤ 4294967295 * 4294967295 := Nat.mul_le_mul (by omega) (by omega)
  rw [← Int.natCast_mul]; omega
theorem test_half {q y0 r v : Nat} (h : 4294967296 * r + v < q * y0) : (4294967296 : Int) * (r : Int) + (v : Int) < (q : Int) * (y0 : Int) := by rw [← Int.natCast_mul]; omega
theorem test_half' {q y0 r v : Nat} (h : q * y0 ≤ 4294967296 * r + v) : (q : Int) * (y0 : Int) ≤ (4294967296 : Int) * (r : Int) + (v : Int) := by rw [← Int.natCast_mul]; omega

/-- The two words shifted so that the divisor has 64 bits: what the halves are together. -/
theorem words (hi lo y s Y Hh L u y1 y0 v1 v0 : Nat) (n1 : 3 ≤ s) (n2 : s ≤ 63) (GY : y * 2 ^ s = Y) (GH : hi * 2 ^ s = Hh) (hhy : hi < y) (n3 : 9223372036854775808 ≤ Y) (n4 : Y < 18446744073709551616)
    (hl : lo < 18446744073709551616) (hu : Hh + lo / 2 ^ (64 - s) = u) (hL : lo * 2 ^ s % 18446744073709551616 = L) (hy1 : Y / 4294967296 = y1) (hy0 : Y % 4294967296 = y0) (hv1 : L / 4294967296 = v1) (hv0 : L % 4294967296 = v0) :
    Ks u v1 y1 y0 ∧ (hi * 18446744073709551616 + lo) * 2 ^ s = (u * 4294967296 + v1) * 4294967296 + v0 ∧ y * 2 ^ s = y1 * 4294967296 + y0 := by
  have hp : 2 ^ s * 2 ^ (64 - s) = 18446744073709551616 := by rw [← Nat.pow_add, show s + (64 - s) = 64 by omega]
  have hp0 : 0 < 2 ^ (64 - s) := Nat.pow_pos (by omega)
  have hlo : lo * 2 ^ s / 18446744073709551616 = lo / 2 ^ (64 - s) := by
    rw [← hp, Nat.mul_comm lo, Nat.mul_div_mul_left _ _ (Nat.pow_pos (by omega))]
  have hdm := Nat.div_add_mod (lo * 2 ^ s) 18446744073709551616
  rw [hlo, hL] at hdm
  have hlt : lo / 2 ^ (64 - s) < 2 ^ s := by
    rw [Nat.div_lt_iff_lt_mul hp0, hp]; exact hl
  have hYl : Y = y1 * 4294967296 + y0 := by omega
  have hLl : L = v1 * 4294967296 + v0 := by omega
  have hLm : L < 18446744073709551616 := by omega
  refine ⟨⟨by omega, by omega, by omega, by omega, ?_⟩, ?_, by rw [GY]; exact hYl⟩
  · rw [← hYl, ← hu, ← GY, ← GH]
    have : (hi + 1) * 2 ^ s ≤ y * 2 ^ s := Nat.mul_le_mul_right _ hhy
    rw [Nat.add_mul] at this
    omega
  · rw [Nat.add_mul, Nat.mul_right_comm, GH, ← hu]
    generalize lo / 2 ^ (64 - s) = t at *
    omega

theorem or_words (hi lo y s Hh u : Nat) (n1 : 3 ≤ s) (n2 : s ≤ 63) (GH : hi * 2 ^ s = Hh) (hl : lo < 18446744073709551616) (hu : Hh + lo / 2 ^ (64 - s) = u) (hH : Hh < 18446744073709551616) :
    bits .or .u64 (Hh : Int) ((lo : Int) / 2 ^ (64 - s)) = (u : Int) := by
  have hp : 2 ^ s * 2 ^ (64 - s) = 18446744073709551616 := by rw [← Nat.pow_add, show s + (64 - s) = 64 by omega]
  have hp0 : 0 < 2 ^ (64 - s) := Nat.pow_pos (by omega)
  have hlt : lo / 2 ^ (64 - s) < 2 ^ s := by
    rw [Nat.div_lt_iff_lt_mul hp0, hp]; exact hl
  have e : ((lo : Int) / 2 ^ (64 - s)) = ((lo / 2 ^ (64 - s) : Nat) : Int) := by simp
  rw [e]
  have hle : lo / 2 ^ (64 - s) ≤ lo := Nat.div_le_self _ _
  have h := bits_or_u64_nat Hh (lo / 2 ^ (64 - s)) hH (by omega)
  rw [h]
  have : Hh ||| lo / 2 ^ (64 - s) = u := by
    rw [← hu, ← GH, ← Nat.shiftLeft_eq, Nat.shiftLeft_add_eq_or_of_lt hlt]
  rw [this]

set_option maxRecDepth 100000 in
set_option maxHeartbeats 1000000 in
theorem div64_high (hi lo y QQ RR : Nat) (w : World) (hh : 0 < hi) (hhy : hi < y) (hy2 : y ≤ 1152921504606846976) (hl : lo < 18446744073709551616)
    (HQQ : Box (QQ = (hi * 18446744073709551616 + lo) / y)) (HRR : Box (RR = (hi * 18446744073709551616 + lo) % y)) :
    Calls Try.prog 91 #[.int .u64 hi, .int .u64 lo, .int .u64 y] w fun e w' => e = .returned (.tuple #[.int .u64 (QQ : Int), .int .u64 (RR : Int)]) ∧ ∃ n, w' = w.drewN n := by
  have h0 : ((y : Int) == 0) = false := by simp; omega
  have h1 : ((hi : Int) == 0) = false := by simp; omega
  obtain ⟨n1, n2, n3, n4⟩ := norm_bounds y (by omega) hy2
  have hbl : Lib.bitLen y ≤ 61 := by omega
  go_enter Try.func91, Try.ntmps91
  go_wp2_with fail
  refine (Try.bits_LeadingZeros64 (y : Int) _ (by omega) (by omega)).mono ?_
  rintro e w' ⟨rfl, hw'⟩
  subst w'
  rw [Int.toNat_natCast]
  obtain ⟨s, hs⟩ : ∃ s : Nat, 64 - Lib.bitLen y = s := ⟨_, rfl⟩
  have es : (64 - (Lib.bitLen y : Int)) = (s : Int) := by omega
  rw [es]
  rw [hs] at n1 n2 n3 n4
  have HS := hidq hs
  clear hs es
  obtain ⟨Y, hY⟩ : ∃ Y : Nat, y * 2 ^ s = Y := ⟨_, rfl⟩
  obtain ⟨Hh, hH⟩ : ∃ Hh : Nat, hi * 2 ^ s = Hh := ⟨_, rfl⟩
  have eY : (y : Int) * 2 ^ s = (Y : Int) := by rw [← hY]; simp
  have eH : (hi : Int) * 2 ^ s = (Hh : Int) := by rw [← hH]; simp
  have lH : Hh < Y := by rw [← hH, ← hY]; exact Nat.mul_lt_mul_of_pos_right hhy (Nat.pow_pos (by omega))
  rw [hY] at n3 n4
  have GY := hidq hY
  have GH := hidq hH
  clear hY hH h0 h1 hbl
  -- the words' halves, each by its name: the walk takes these equations for rules
  obtain ⟨y1, hy1⟩ : ∃ y1 : Nat, Y / 4294967296 = y1 := ⟨_, rfl⟩
  obtain ⟨y0, hy0⟩ : ∃ y0 : Nat, Y % 4294967296 = y0 := ⟨_, rfl⟩
  obtain ⟨u, hu⟩ : ∃ u : Nat, Hh + lo / 2 ^ (64 - s) = u := ⟨_, rfl⟩
  obtain ⟨L, hL⟩ : ∃ L : Nat, lo * 2 ^ s % 18446744073709551616 = L := ⟨_, rfl⟩
  obtain ⟨v1, hv1⟩ : ∃ v1 : Nat, L / 4294967296 = v1 := ⟨_, rfl⟩
  obtain ⟨v0, hv0⟩ : ∃ v0 : Nat, L % 4294967296 = v0 := ⟨_, rfl⟩
  obtain ⟨W1, W2, W3⟩ := words hi lo y s Y Hh L u y1 y0 v1 v0 n1 n2 GY.out GH.out hhy n3 n4 hl hu hL hy1 hy0 hv1 hv0
  have HW1 := hidq W1
  have HW2 := hidq W2
  have HW3 := hidq W3
  have E1 : (Y : Int) / 4294967296 = (y1 : Int) := by omega
  have E2 : bits .and .u64 (Y : Int) 4294967295 = (y0 : Int) := by rw [← hy0]; exact Mul64.maskN Y (by omega)
  have E3 : bits .or .u64 (Hh : Int) ((lo : Int) / 2 ^ (64 - s)) = (u : Int) := or_words hi lo y s Hh u n1 n2 GH.out hl hu (by omega)
  have E4 : IntKind.u64.wrap ((lo : Int) * 2 ^ s) = (L : Int) := by
    rw [IntKind.wrap_u64, ← hL]; simp
  have E5 : (L : Int) / 4294967296 = (v1 : Int) := by omega
  have E6 : bits .and .u64 (L : Int) 4294967295 = (v0 : Int) := by rw [← hv0]; exact Mul64.maskN L (by omega)
  have ks := W1
  obtain ⟨q0, hq0⟩ : ∃ q0 : Nat, u / y1 = q0 := ⟨_, rfl⟩
  obtain ⟨r0, hr0⟩ : ∃ r0 : Nat, u % y1 = r0 := ⟨_, rfl⟩
  have KS := ks.start
  rw [hq0, hr0] at KS
  have HK := hidq KS
  have E7 : (u : Int) / (y1 : Int) = (q0 : Int) := by rw [← hq0]; simp
  have E8 : (u : Int) - (q0 : Int) * (y1 : Int) = (r0 : Int) := by
    have := KS.sum
    rw [← Int.natCast_mul]; omega
  have b1 : (0 : Int) ≤ (q0 : Int) * (y1 : Int) ∧ (q0 : Int) * (y1 : Int) < 18446744073709551616 := by
    have := KS.sum
    have := W1.uh
    rw [← Int.natCast_mul]; omega
  have hy1l := W1.y1l
  have hy1h := W1.y1h
  have hy0h := W1.y0h
  have hv1h := W1.vh
  have hv0h : v0 < 4294967296 := by omega
  have hul : u < 18446744073709551616 := by have := W1.uh; omega
  have hq0l := KS.most W1
  clear W1 W2 W3 ks KS hu hL hv1 hv0 hy1 hy0 hq0 hr0
  go_wp2_with fail
  clear E1 E2 E3 E4 E5 E6 E7 E8 b1 eY eH
  have B1 : (2147483648 : Int) ≤ (y1 : Int) ∧ (y1 : Int) ≤ 4294967295 := by omega
  have B2 : (0 : Int) ≤ (y0 : Int) ∧ (y0 : Int) ≤ 4294967295 := by omega
  have B3 : (0 : Int) ≤ (v1 : Int) ∧ (v1 : Int) ≤ 4294967295 := by omega
  have B10 : (0 : Int) ≤ (v0 : Int) ∧ (v0 : Int) ≤ 4294967295 := by omega
  have B4 : (0 : Int) ≤ (u : Int) ∧ (u : Int) ≤ 18446744073709551615 := by omega
  have B5 : (9223372036854775808 : Int) ≤ (Y : Int) ∧ (Y : Int) ≤ 18446744073709551615 := by omega
  have C1 := hidq hy0h
  have C2 := hidq hhy
  have C3 := hidq hh
  have C4 := hidq hl
  have C5 := hidq hy2
  have C6 := hidq hv0h
  clear hy1l hy1h hy0h hv1h hul n3 n4 hq0l hhy hh hl hy2 lH hv0h
  go_loop [15, 16] (fun a b => ∃ q r : Nat, a = .int .u64 q ∧ b = .int .u64 r ∧ Box (Kn u v1 y1 y0 q r)) (fun a _ => (intOf a).toNat)
  case atStart => exact ⟨q0, r0, rfl, rfl, HK⟩
  case round =>
    obtain ⟨q, r, rfl, rfl, HKn⟩ := hrel
    have hr : (0 : Int) ≤ (r : Int) ∧ (r : Int) ≤ 4294967295 := by have := HKn.out.rlt; omega
    have hqm : (0 : Int) ≤ (q : Int) ∧ (q : Int) ≤ 4294967297 := by have := HKn.out.most HW1.out; omega
    rcases ways q r v1 y1 y0 with ⟨t1, t2⟩ | ⟨t1, t2, t3⟩ | t
    · have hq1 := HKn.out.pos HW1.out (Or.inl t1)
      have HN := hidq (HKn.out.next HW1.out (Or.inl t1) t2)
      have i0 : (1 : Int) ≤ (q : Int) := by omega
      have i1 : (4294967296 : Int) ≤ (q : Int) := by omega
      have i2 : (r : Int) + (y1 : Int) ≤ 4294967295 := by omega
      have i3 : decide ((4294967296 : Int) ≤ (r : Int) + (y1 : Int)) = false := by simp; omega
      clear t1 t2 hq1
      go_wp2_with fail
      go_round
      case rel => exact ⟨q - 1, r + y1, by go_num, by go_num, HN⟩
      case measure => simp [intOf]; omega
    · have hq1 := HKn.out.pos HW1.out (Or.inr t2)
      have HN := hidq (HKn.out.next HW1.out (Or.inr t2) t3)
      have m1 := mul_half q y0 t1 C1.out
      have m2 := test_half t2
      have i0 : (1 : Int) ≤ (q : Int) := by omega
      have i1 : (q : Int) ≤ 4294967295 := by omega
      have i4 : decide ((4294967296 : Int) ≤ (q : Int)) = false := by simp; omega
      have i2 : (r : Int) + (y1 : Int) ≤ 4294967295 := by omega
      have i3 : decide ((4294967296 : Int) ≤ (r : Int) + (y1 : Int)) = false := by simp; omega
      clear t1 t2 t3 hq1
      go_wp2_with fail
      go_round
      case rel => exact ⟨q - 1, r + y1, by go_num, by go_num, HN⟩
      case measure => simp [intOf]; omega
    -- the three ways out of the first loop
    have key : ∃ (Q1 : Nat), (4294967296 ≤ q ∧ 4294967296 ≤ r + y1 ∧ 1 ≤ q ∧ (q : Int) - 1 = (Q1 : Int) ∧ Box (Q1 = (u * 4294967296 + v1) / (y1 * 4294967296 + y0))) ∨
        (q < 4294967296 ∧ 4294967296 * r + v1 < q * y0 ∧ 4294967296 ≤ r + y1 ∧ 1 ≤ q ∧ (q : Int) - 1 = (Q1 : Int) ∧ Box (Q1 = (u * 4294967296 + v1) / (y1 * 4294967296 + y0))) ∨
        (q < 4294967296 ∧ q * y0 ≤ 4294967296 * r + v1 ∧ q = Q1 ∧ Box (Q1 = (u * 4294967296 + v1) / (y1 * 4294967296 + y0))) := by
      rcases t with ⟨t1, t2⟩ | ⟨t1, t2, t3⟩ | ⟨t1, t2⟩
      · have hq1 := HKn.out.pos HW1.out (Or.inl t1)
        exact ⟨q - 1, Or.inl ⟨t1, t2, hq1, by omega, ⟨HKn.out.stop HW1.out (Or.inl t1) t2⟩⟩⟩
      · have hq1 := HKn.out.pos HW1.out (Or.inr t2)
        exact ⟨q - 1, Or.inr (Or.inl ⟨t1, t2, t3, hq1, by omega, ⟨HKn.out.stop HW1.out (Or.inr t2) t3⟩⟩)⟩
      · exact ⟨q, Or.inr (Or.inr ⟨t1, t2, rfl, ⟨HKn.out.done HW1.out t2⟩⟩)⟩
    obtain ⟨Q1, key⟩ := key
    have HQ : Box (Q1 = (u * 4294967296 + v1) / (y1 * 4294967296 + y0)) := by
      rcases key with k | k | k
      · exact k.2.2.2.2
      · exact k.2.2.2.2.2
      · exact k.2.2.2
    obtain ⟨R1, hR1⟩ : ∃ R1 : Nat, R1 = (u * 4294967296 + v1) % (y1 * 4294967296 + y0) := ⟨_, rfl⟩
    have HR := hidq hR1
    have hR1l : R1 < y1 * 4294967296 + y0 := by rw [hR1]; exact Nat.mod_lt _ (by omega)
    have hQ1l : Q1 < 4294967296 := by rw [HQ.out]; exact HW1.out.small
    have hdm : u * 4294967296 + v1 = Q1 * Y + R1 := by
      have := Nat.div_add_mod (u * 4294967296 + v1) (y1 * 4294967296 + y0)
      rw [← hR1, ← HQ.out, Nat.mul_comm] at this
      rw [← GY.out, HW3.out]; exact this.symm
    have hYy : Y = y1 * 4294967296 + y0 := by rw [← GY.out]; exact HW3.out
    have F1 : IntKind.u64.wrap (IntKind.u64.wrap (IntKind.u64.wrap ((u : Int) * 4294967296) + (v1 : Int)) - IntKind.u64.wrap ((Q1 : Int) * (Y : Int))) = (R1 : Int) := rest_word u v1 Q1 Y R1 hdm (by omega)
    -- the second half
    have HW4 := hidq (⟨by omega, by omega, C1.out, C6.out, hR1l⟩ : Ks R1 v0 y1 y0)
    obtain ⟨q2, hq2⟩ : ∃ q2 : Nat, R1 / y1 = q2 := ⟨_, rfl⟩
    obtain ⟨r2, hr2⟩ : ∃ r2 : Nat, R1 % y1 = r2 := ⟨_, rfl⟩
    have KS := HW4.out.start
    rw [hq2, hr2] at KS
    have HK2 := hidq KS
    have F2 : (R1 : Int) / (y1 : Int) = (q2 : Int) := by rw [← hq2]; simp
    have F3 : (R1 : Int) - (q2 : Int) * (y1 : Int) = (r2 : Int) := by
      have := KS.sum
      rw [← Int.natCast_mul]; omega
    have b2 : (0 : Int) ≤ (q2 : Int) * (y1 : Int) ∧ (q2 : Int) * (y1 : Int) ≤ 18446744073709551615 := by
      have := KS.sum
      rw [← Int.natCast_mul]; omega
    have B6 : (0 : Int) ≤ (R1 : Int) ∧ (R1 : Int) ≤ 18446744073709551615 := by omega
    have B7 : (0 : Int) ≤ (Q1 : Int) ∧ (Q1 : Int) ≤ 4294967295 := by omega
    have B8 : (0 : Int) ≤ (q2 : Int) ∧ (q2 : Int) ≤ 4294967297 := by have := KS.most HW4.out; omega
    have HDM := hidq hdm
    clear hR1 hR1l hQ1l hdm hYy hq2 hr2 KS
    rcases key with ⟨t1, t2, t3, t4, _⟩ | ⟨t1, t2, t3, t4, t5, _⟩ | ⟨t1, t2, t3, _⟩
    focus
      have i0 : (1 : Int) ≤ (q : Int) := by omega
      have i1 : (4294967296 : Int) ≤ (q : Int) := by omega
      have i3 : decide ((4294967296 : Int) ≤ (r : Int) + (y1 : Int)) = true := by simp; omega
      clear t1 t2 t3
      go_wp2_with fail
      clear t4 i0 i1 i3
    rotate_left
    focus
      have m1 := mul_half q y0 t1 C1.out
      have m2 : decide ((4294967296 : Int) * (r : Int) + (v1 : Int) < (q : Int) * (y0 : Int)) = true := by simpa using test_half t2
      have i0 : (1 : Int) ≤ (q : Int) := by omega
      have i1 : (q : Int) ≤ 4294967295 := by omega
      have i4 : decide ((4294967296 : Int) ≤ (q : Int)) = false := by simp; omega
      have i3 : decide ((4294967296 : Int) ≤ (r : Int) + (y1 : Int)) = true := by simp; omega
      clear t1 t2 t3 t4
      go_wp2_with fail
      clear t5 m1 m2 i0 i1 i3 i4
    rotate_left
    focus
      have m1 := mul_half q y0 t1 C1.out
      have m2 := test_half' t2
      have i1 : (q : Int) ≤ 4294967295 := by omega
      have i4 : decide ((4294967296 : Int) ≤ (q : Int)) = false := by simp; omega
      clear t1 t2
      subst q
      go_wp2_with fail
      clear m1 m2 i1 i4
    rotate_left
    all_goals
      clear F1 F2 F3 b2 hr hqm HKn
      go_loop [18, 16] (fun a b => ∃ q r : Nat, a = .int .u64 q ∧ b = .int .u64 r ∧ Box (Kn R1 v0 y1 y0 q r)) (fun a _ => (intOf a).toNat)
      case atStart => exact ⟨q2, r2, rfl, rfl, HK2⟩
      case round =>
        obtain ⟨q, r, rfl, rfl, HKn⟩ := hrel
        have hr : (0 : Int) ≤ (r : Int) ∧ (r : Int) ≤ 4294967295 := by have := HKn.out.rlt; omega
        have hqm : (0 : Int) ≤ (q : Int) ∧ (q : Int) ≤ 4294967297 := by have := HKn.out.most HW4.out; omega
        rcases ways q r v0 y1 y0 with ⟨t1, t2⟩ | ⟨t1, t2, t3⟩ | t
        · have hq1 := HKn.out.pos HW4.out (Or.inl t1)
          have HN := hidq (HKn.out.next HW4.out (Or.inl t1) t2)
          have i0 : (1 : Int) ≤ (q : Int) := by omega
          have i1 : (4294967296 : Int) ≤ (q : Int) := by omega
          have i2 : (r : Int) + (y1 : Int) ≤ 4294967295 := by omega
          have i3 : decide ((4294967296 : Int) ≤ (r : Int) + (y1 : Int)) = false := by simp; omega
          clear t1 t2 hq1
          go_wp2_with fail
          go_round
          case rel => exact ⟨q - 1, r + y1, by go_num, by go_num, HN⟩
          case measure => simp [intOf]; omega
        · have hq1 := HKn.out.pos HW4.out (Or.inr t2)
          have HN := hidq (HKn.out.next HW4.out (Or.inr t2) t3)
          have m1 := mul_half q y0 t1 C1.out
          have m2 := test_half t2
          have i0 : (1 : Int) ≤ (q : Int) := by omega
          have i1 : (q : Int) ≤ 4294967295 := by omega
          have i4 : decide ((4294967296 : Int) ≤ (q : Int)) = false := by simp; omega
          have i2 : (r : Int) + (y1 : Int) ≤ 4294967295 := by omega
          have i3 : decide ((4294967296 : Int) ≤ (r : Int) + (y1 : Int)) = false := by simp; omega
          clear t1 t2 t3 hq1
          go_wp2_with fail
          go_round
          case rel => exact ⟨q - 1, r + y1, by go_num, by go_num, HN⟩
          case measure => simp [intOf]; omega
        have key : ∃ (Q0 : Nat), (4294967296 ≤ q ∧ 4294967296 ≤ r + y1 ∧ 1 ≤ q ∧ (q : Int) - 1 = (Q0 : Int) ∧ Box (Q0 = (R1 * 4294967296 + v0) / (y1 * 4294967296 + y0))) ∨
            (q < 4294967296 ∧ 4294967296 * r + v0 < q * y0 ∧ 4294967296 ≤ r + y1 ∧ 1 ≤ q ∧ (q : Int) - 1 = (Q0 : Int) ∧ Box (Q0 = (R1 * 4294967296 + v0) / (y1 * 4294967296 + y0))) ∨
            (q < 4294967296 ∧ q * y0 ≤ 4294967296 * r + v0 ∧ q = Q0 ∧ Box (Q0 = (R1 * 4294967296 + v0) / (y1 * 4294967296 + y0))) := by
          rcases t with ⟨t1, t2⟩ | ⟨t1, t2, t3⟩ | ⟨t1, t2⟩
          · have hq1 := HKn.out.pos HW4.out (Or.inl t1)
            exact ⟨q - 1, Or.inl ⟨t1, t2, hq1, by omega, ⟨HKn.out.stop HW4.out (Or.inl t1) t2⟩⟩⟩
          · have hq1 := HKn.out.pos HW4.out (Or.inr t2)
            exact ⟨q - 1, Or.inr (Or.inl ⟨t1, t2, t3, hq1, by omega, ⟨HKn.out.stop HW4.out (Or.inr t2) t3⟩⟩)⟩
          · exact ⟨q, Or.inr (Or.inr ⟨t1, t2, rfl, ⟨HKn.out.done HW4.out t2⟩⟩)⟩
        obtain ⟨Q0, key⟩ := key
        have HQ0 : Box (Q0 = (R1 * 4294967296 + v0) / (y1 * 4294967296 + y0)) := by
          rcases key with k | k | k
          · exact k.2.2.2.2
          · exact k.2.2.2.2.2
          · exact k.2.2.2
        obtain ⟨R0, hR0⟩ : ∃ R0 : Nat, R0 = (R1 * 4294967296 + v0) % (y1 * 4294967296 + y0) := ⟨_, rfl⟩
        have HR0 := hidq hR0
        have hYy : Y = y1 * 4294967296 + y0 := by rw [← GY.out]; exact HW3.out
        have hR0l : R0 < y1 * 4294967296 + y0 := by rw [hR0]; exact Nat.mod_lt _ (by omega)
        have hQ0l : Q0 < 4294967296 := by rw [HQ0.out]; exact HW4.out.small
        have hdm : R1 * 4294967296 + v0 = Q0 * Y + R0 := by
          have := Nat.div_add_mod (R1 * 4294967296 + v0) (y1 * 4294967296 + y0)
          rw [← hR0, ← HQ0.out, Nat.mul_comm] at this
          rw [hYy]; exact this.symm
        have F1 : IntKind.u64.wrap (IntKind.u64.wrap (IntKind.u64.wrap ((R1 : Int) * 4294967296) + (v0 : Int)) - IntKind.u64.wrap ((Q0 : Int) * (Y : Int))) = (R0 : Int) := rest_word R1 v0 Q0 Y R0 hdm (by omega)
        have B8 : (0 : Int) ≤ (Q0 : Int) ∧ (Q0 : Int) ≤ 4294967295 := by omega
        have B9 : (0 : Int) ≤ (R0 : Int) ∧ (R0 : Int) ≤ 18446744073709551615 := by omega
        have HF := hidq (kn_whole (hi * 18446744073709551616 + lo) y (2 ^ s) u v1 v0 y1 y0 HW2.out HW3.out (by have := C2.out; omega) (Nat.pow_pos (by omega)) Q1 R1 Q0 R0 HQ.out HR.out HQ0.out HR0.out)
        clear hR0 hYy hR0l hQ0l hdm
        rcases key with ⟨t1, t2, t3, t4, _⟩ | ⟨t1, t2, t3, t4, t5, _⟩ | ⟨t1, t2, t3, _⟩
        focus
          have i0 : (1 : Int) ≤ (q : Int) := by omega
          have i1 : (4294967296 : Int) ≤ (q : Int) := by omega
          have i3 : decide ((4294967296 : Int) ≤ (r : Int) + (y1 : Int)) = true := by simp; omega
          clear t1 t2 t3
          go_wp2_with fail
          clear t4 i0 i1 i3
        rotate_left
        focus
          have m1 := mul_half q y0 t1 C1.out
          have m2 := test_half t2
          have i0 : (1 : Int) ≤ (q : Int) := by omega
          have i1 : (q : Int) ≤ 4294967295 := by omega
          have i4 : decide ((4294967296 : Int) ≤ (q : Int)) = false := by simp; omega
          have i3 : decide ((4294967296 : Int) ≤ (r : Int) + (y1 : Int)) = true := by simp; omega
          clear t1 t2 t3 t4
          go_wp2_with fail
          clear t5 m1 m2 i0 i1 i3 i4
        rotate_left
        focus
          have m1 := mul_half q y0 t1 C1.out
          have m2 : decide ((4294967296 : Int) * (r : Int) + (v0 : Int) < (q : Int) * (y0 : Int)) = false := by simpa using test_half' t2
          have i1 : (q : Int) ≤ 4294967295 := by omega
          have i4 : decide ((4294967296 : Int) ≤ (q : Int)) = false := by simp; omega
          clear t1 t2
          subst q
          go_wp2_with fail
          clear m1 m2 i1 i4
        rotate_left
        all_goals
          go_ret2
          refine ⟨ret_two ?_ ?_, 0, rfl⟩
          · rw [HQQ.out, ← HF.out.1]; simp
          · rw [HRR.out, ← HF.out.2]; simp

/-- Div64, the upper word less than the divisor: quotient and rest of the two words. -/
theorem div64_any (hi lo y : Nat) (w : World) (hhy : hi < y) (hy2 : y ≤ 1152921504606846976) (hl : lo < 18446744073709551616) :
    Calls Try.prog 91 #[.int .u64 hi, .int .u64 lo, .int .u64 y] w fun e w' => e = .returned (.tuple #[.int .u64 (((hi * 18446744073709551616 + lo) / y : Nat) : Int), .int .u64 (((hi * 18446744073709551616 + lo) % y : Nat) : Int)]) ∧ ∃ n, w' = w.drewN n := by
  by_cases h : hi = 0
  · subst h
    rw [Nat.zero_mul, Nat.zero_add]
    exact div64_low lo y w (by omega) hy2 hl
  · exact div64_high hi lo y _ _ w (by omega) hhy hy2 hl ⟨rfl⟩ ⟨rfl⟩
end Go.Proofs.Ytcdcpmcjlchfgaa.Sc
