/-
  What math/bits.Div64 answers where the upper word is less than the divisor, the divisor at most 2 to the 60: quotient and rest of the two words.
-/
import Derived.Laws.Externs
import Derived.Test.YtcjcdpfjnomehaaGreatPw1
import Derived.Test.YtcjcdpfjnomehaaGreatPw2
import Derived.Test.YtcjcdpfjnomehaaGreatPw3
namespace Go.Proofs.YtcjcdpfjnomehaaGreat
open Go.RowKit
set_option linter.unusedSimpArgs false
set_option linter.unusedVariables false
structure Box (p : Prop) : Prop where
  out : p
theorem hidq {p : Prop} (h : p) : Box p := ⟨h⟩
theorem ret_two {k k' : IntKind} {a b c d : Int} (h1 : a = c) (h2 : b = d) : Ending.returned (.tuple #[.int k a, .int k' b]) = .returned (.tuple #[.int k c, .int k' d]) := by rw [h1, h2]
set_option maxRecDepth 100000 in
set_option maxHeartbeats 400000 in
theorem div64_low (lo y : Nat) (w : World) (hy : 0 < y) (hy2 : y ≤ 1152921504606846976) (hl : lo < 18446744073709551616) :
    Calls Tryz.prog 228 #[.int .u64 0, .int .u64 lo, .int .u64 y] w fun e w' => e = .returned (.tuple #[.int .u64 ((lo / y : Nat) : Int), .int .u64 ((lo % y : Nat) : Int)]) ∧ ∃ n, w' = w.drewN n := by
  have h0 : ((y : Int) == 0) = false := by simp; omega
  have h1 : ¬ ((y : Int) ≤ 0) := by omega
  go_enter Tryz.func228, Tryz.ntmps228
  go_wp2_with fail
  go_quiet (fail)
  go_wp2_with fail
  go_ret2
  refine ⟨?_, _, rfl⟩
  have hq : lo / y ≤ lo := Nat.div_le_self _ _
  have e1 : IntKind.u64.wrap ((lo : Int) / (y : Int)) = (lo : Int) / (y : Int) := by
    rw [← Int.natCast_ediv]
    generalize lo / y = z at *
    rw [IntKind.wrap_u64]; omega
  simp [e1]
theorem rest_word (u v Q Y R : Nat) (h : u * 4294967296 + v = Q * Y + R) (hR : R < 18446744073709551616) :
    IntKind.u64.wrap (IntKind.u64.wrap (IntKind.u64.wrap ((u : Int) * 4294967296) + (v : Int)) - IntKind.u64.wrap ((Q : Int) * (Y : Int))) = (R : Int) := by
  have e : (Q : Int) * (Y : Int) = ((Q * Y : Nat) : Int) := (Int.natCast_mul Q Y).symm
  rw [e]
  generalize Q * Y = P at *
  simp only [IntKind.wrap_u64]
  omega
theorem ways (q r v y1 y0 : Nat) : (4294967296 ≤ q ∧ r + y1 < 4294967296) ∨ (q < 4294967296 ∧ 4294967296 * r + v < q * y0 ∧ r + y1 < 4294967296) ∨
    (4294967296 ≤ q ∧ 4294967296 ≤ r + y1) ∨ (q < 4294967296 ∧ 4294967296 * r + v < q * y0 ∧ 4294967296 ≤ r + y1) ∨ (q < 4294967296 ∧ q * y0 ≤ 4294967296 * r + v) := by omega
theorem mul_half (q y0 : Nat) (h : q < 4294967296) (h0 : y0 < 4294967296) : (0 : Int) ≤ (q : Int) * (y0 : Int) ∧ (q : Int) * (y0 : Int) ≤ 18446744073709551615 := by
  have : q * y0 ≤ 4294967295 * 4294967295 := Nat.mul_le_mul (by omega) (by omega)
  rw [← Int.natCast_mul]; omega
theorem test_half {q y0 r v : Nat} (h : 4294967296 * r + v < q * y0) : (4294967296 : Int) * (r : Int) + (v : Int) < (q : Int) * (y0 : Int) := by rw [← Int.natCast_mul]; omega
theorem test_half' {q y0 r v : Nat} (h : q * y0 ≤ 4294967296 * r + v) : (q : Int) * (y0 : Int) ≤ (4294967296 : Int) * (r : Int) + (v : Int) := by rw [← Int.natCast_mul]; omega
theorem words (hi lo y s Y Hh L u y1 y0 v1 v0 : Nat) (n1 : 3 ≤ s) (n2 : s ≤ 63) (GY : y * 2 ^ s = Y) (GH : hi * 2 ^ s = Hh) (hhy : hi < y) (n3 : 9223372036854775808 ≤ Y) (n4 : Y < 18446744073709551616)
    (hl : lo < 18446744073709551616) (hu : Hh + lo / 2 ^ (64 - s) = u) (hL : lo * 2 ^ s % 18446744073709551616 = L) (hy1 : Y / 4294967296 = y1) (hy0 : Y % 4294967296 = y0) (hv1 : L / 4294967296 = v1) (hv0 : L % 4294967296 = v0) :
    Ks u v1 y1 y0 ∧ (hi * 18446744073709551616 + lo) * 2 ^ s = (u * 4294967296 + v1) * 4294967296 + v0 ∧ y * 2 ^ s = y1 * 4294967296 + y0 := by
  have hp : 2 ^ s * 2 ^ (64 - s) = 18446744073709551616 := by rw [← Nat.pow_add, show s + (64 - s) = 64 by omega]
  have hp0 : 0 < 2 ^ (64 - s) := Nat.pow_pos (by omega)
  have hlo : lo * 2 ^ s / 18446744073709551616 = lo / 2 ^ (64 - s) := by
    rw [← hp, Nat.mul_comm lo, Nat.mul_div_mul_left _ _ (Nat.pow_pos (by omega))]
  have hdm := Nat.div_add_mod (lo * 2 ^ s) 18446744073709551616
  rw [hlo, hL] at hdm
  have hlt : lo / 2 ^ (64 - s) < 2 ^ s := by
    rw [Nat.div_lt_iff_lt_mul hp0, hp]; exact hl
  have hYl : Y = y1 * 4294967296 + y0 := by omega
  have hLl : L = v1 * 4294967296 + v0 := by omega
  have hLm : L < 18446744073709551616 := by omega
  refine ⟨⟨by omega, by omega, by omega, by omega, ?_⟩, ?_, by rw [GY]; exact hYl⟩
  · rw [← hYl, ← hu, ← GY, ← GH]
    have : (hi + 1) * 2 ^ s ≤ y * 2 ^ s := Nat.mul_le_mul_right _ hhy
    rw [Nat.add_mul] at this
    omega
  · rw [Nat.add_mul, Nat.mul_right_comm, GH, ← hu]
    generalize lo / 2 ^ (64 - s) = t at *
    omega
theorem or_words (hi lo y s Hh u : Nat) (n1 : 3 ≤ s) (n2 : s ≤ 63) (GH : hi * 2 ^ s = Hh) (hl : lo < 18446744073709551616) (hu : Hh + lo / 2 ^ (64 - s) = u) (hH : Hh < 18446744073709551616) :
    bits .or .u64 (Hh : Int) ((lo : Int) / 2 ^ (64 - s)) = (u : Int) := by
  have hp : 2 ^ s * 2 ^ (64 - s) = 18446744073709551616 := by rw [← Nat.pow_add, show s + (64 - s) = 64 by omega]
  have hp0 : 0 < 2 ^ (64 - s) := Nat.pow_pos (by omega)
  have hlt : lo / 2 ^ (64 - s) < 2 ^ s := by
    rw [Nat.div_lt_iff_lt_mul hp0, hp]; exact hl
  have e : ((lo : Int) / 2 ^ (64 - s)) = ((lo / 2 ^ (64 - s) : Nat) : Int) := by simp
  rw [e]
  have hle : lo / 2 ^ (64 - s) ≤ lo := Nat.div_le_self _ _
  have h := bits_or_u64_nat Hh (lo / 2 ^ (64 - s)) hH (by omega)
  rw [h]
  have : Hh ||| lo / 2 ^ (64 - s) = u := by
    rw [← hu, ← GH, ← Nat.shiftLeft_eq, Nat.shiftLeft_add_eq_or_of_lt hlt]
  rw [this]
set_option maxRecDepth 100000 in
set_option maxHeartbeats 1000000 in
theorem div64_high (hi lo y QQ RR : Nat) (w : World) (hh : 0 < hi) (hhy : hi < y) (hy2 : y ≤ 1152921504606846976) (hl : lo < 18446744073709551616)
    (HQQ : Box (QQ = (hi * 18446744073709551616 + lo) / y)) (HRR : Box (RR = (hi * 18446744073709551616 + lo) % y)) :
    Calls Tryz.prog 228 #[.int .u64 hi, .int .u64 lo, .int .u64 y] w fun e w' => e = .returned (.tuple #[.int .u64 (QQ : Int), .int .u64 (RR : Int)]) ∧ ∃ n, w' = w.drewN n := by
  have h0 : ((y : Int) == 0) = false := by simp; omega
  have h1 : ((hi : Int) == 0) = false := by simp; omega
  obtain ⟨n1, n2, n3, n4⟩ := norm_bounds y (by omega) hy2
  have hbl : Lib.bitLen y ≤ 61 := by omega
  go_enter Tryz.func228, Tryz.ntmps228
  go_wp2_with fail
  refine (Tryz.bits_LeadingZeros64 (y : Int) _ (by omega) (by omega)).mono ?_
  rintro e w' ⟨rfl, hw'⟩
  subst w'
  rw [Int.toNat_natCast]
  obtain ⟨s, hs⟩ : ∃ s : Nat, 64 - Lib.bitLen y = s := ⟨_, rfl⟩
  have es : (64 - (Lib.bitLen y : Int)) = (s : Int) := by omega
  rw [es]
  rw [hs] at n1 n2 n3 n4
  have HS := hidq hs
  clear hs es
  obtain ⟨Y, hY⟩ : ∃ Y : Nat, y * 2 ^ s = Y := ⟨_, rfl⟩
  obtain ⟨Hh, hH⟩ : ∃ Hh : Nat, hi * 2 ^ s = Hh := ⟨_, rfl⟩
  have eY : (y : Int) * 2 ^ s = (Y : Int) := by rw [← hY]; simp
  have eH : (hi : Int) * 2 ^ s = (Hh : Int) := by rw [← hH]; simp
  have lH : Hh < Y := by rw [← hH, ← hY]; exact Nat.mul_lt_mul_of_pos_right hhy (Nat.pow_pos (by omega))
  rw [hY] at n3 n4
  have GY := hidq hY
  have GH := hidq hH
  clear hY hH h0 h1 hbl
  -- the words' halves, each by its name: the walk takes these equations for rules
  obtain ⟨y1, hy1⟩ : ∃ y1 : Nat, Y / 4294967296 = y1 := ⟨_, rfl⟩
  obtain ⟨y0, hy0⟩ : ∃ y0 : Nat, Y % 4294967296 = y0 := ⟨_, rfl⟩
  obtain ⟨u, hu⟩ : ∃ u : Nat, Hh + lo / 2 ^ (64 - s) = u := ⟨_, rfl⟩
  obtain ⟨L, hL⟩ : ∃ L : Nat, lo * 2 ^ s % 18446744073709551616 = L := ⟨_, rfl⟩
  obtain ⟨v1, hv1⟩ : ∃ v1 : Nat, L / 4294967296 = v1 := ⟨_, rfl⟩
  obtain ⟨v0, hv0⟩ : ∃ v0 : Nat, L % 4294967296 = v0 := ⟨_, rfl⟩
  obtain ⟨W1, W2, W3⟩ := words hi lo y s Y Hh L u y1 y0 v1 v0 n1 n2 GY.out GH.out hhy n3 n4 hl hu hL hy1 hy0 hv1 hv0
  have HW1 := hidq W1
  have HW2 := hidq W2
  have HW3 := hidq W3
  have E1 : (Y : Int) / 4294967296 = (y1 : Int) := by omega
  have E2 : bits .and .u64 (Y : Int) 4294967295 = (y0 : Int) := by rw [← hy0]; exact Mul64.maskN Y (by omega)
  have E3 : bits .or .u64 (Hh : Int) ((lo : Int) / 2 ^ (64 - s)) = (u : Int) := or_words hi lo y s Hh u n1 n2 GH.out hl hu (by omega)
  have E4 : IntKind.u64.wrap ((lo : Int) * 2 ^ s) = (L : Int) := by
    rw [IntKind.wrap_u64, ← hL]; simp
  have E5 : (L : Int) / 4294967296 = (v1 : Int) := by omega
  have E6 : bits .and .u64 (L : Int) 4294967295 = (v0 : Int) := by rw [← hv0]; exact Mul64.maskN L (by omega)
  have ks := W1
  obtain ⟨q0, hq0⟩ : ∃ q0 : Nat, u / y1 = q0 := ⟨_, rfl⟩
  obtain ⟨r0, hr0⟩ : ∃ r0 : Nat, u % y1 = r0 := ⟨_, rfl⟩
  have KS := ks.start
  rw [hq0, hr0] at KS
  have HK := hidq KS
  have E7 : (u : Int) / (y1 : Int) = (q0 : Int) := by rw [← hq0]; simp
  have E8 : (u : Int) - (q0 : Int) * (y1 : Int) = (r0 : Int) := by
    have := KS.sum
    rw [← Int.natCast_mul]; omega
  have b1 : (0 : Int) ≤ (q0 : Int) * (y1 : Int) ∧ (q0 : Int) * (y1 : Int) < 18446744073709551616 := by
    have := KS.sum
    have := W1.uh
    rw [← Int.natCast_mul]; omega
  have hy1l := W1.y1l
  have hy1h := W1.y1h
  have hy0h := W1.y0h
  have hv1h := W1.vh
  have hv0h : v0 < 4294967296 := by omega
  have hul : u < 18446744073709551616 := by have := W1.uh; omega
  have hq0l := KS.most W1
  clear W1 W2 W3 ks KS hu hL hv1 hv0 hy1 hy0 hq0 hr0
  go_wp2_with fail
  clear E1 E2 E3 E4 E5 E6 E7 E8 b1 eY eH
  have B1 : (2147483648 : Int) ≤ (y1 : Int) ∧ (y1 : Int) ≤ 4294967295 := by omega
  have B2 : (0 : Int) ≤ (y0 : Int) ∧ (y0 : Int) ≤ 4294967295 := by omega
  have B3 : (0 : Int) ≤ (v1 : Int) ∧ (v1 : Int) ≤ 4294967295 := by omega
  have B10 : (0 : Int) ≤ (v0 : Int) ∧ (v0 : Int) ≤ 4294967295 := by omega
  have B4 : (0 : Int) ≤ (u : Int) ∧ (u : Int) ≤ 18446744073709551615 := by omega
  have B5 : (9223372036854775808 : Int) ≤ (Y : Int) ∧ (Y : Int) ≤ 18446744073709551615 := by omega
  have C1 := hidq hy0h
  have C2 := hidq hhy
  have C3 := hidq hh
  have C4 := hidq hl
  have C5 := hidq hy2
  have C6 := hidq hv0h
  clear hy1l hy1h hy0h hv1h hul n3 n4 hq0l hhy hh hl hy2 lH hv0h
  go_loop [15, 16] (fun a b => ∃ q r : Nat, a = .int .u64 q ∧ b = .int .u64 r ∧ Box (Kn u v1 y1 y0 q r)) (fun a _ => (intOf a).toNat)
  case atStart => exact ⟨q0, r0, rfl, rfl, HK⟩
  case round =>
    obtain ⟨q, r, rfl, rfl, HKn⟩ := hrel
    have hr : (0 : Int) ≤ (r : Int) ∧ (r : Int) ≤ 4294967295 := by have := HKn.out.rlt; omega
    have hqm : (0 : Int) ≤ (q : Int) ∧ (q : Int) ≤ 4294967297 := by have := HKn.out.most HW1.out; omega
    rcases ways q r v1 y1 y0 with ⟨t1, t2⟩ | ⟨t1, t2, t3⟩ | t
    · have hq1 := HKn.out.pos HW1.out (Or.inl t1)
      have HN := hidq (HKn.out.next HW1.out (Or.inl t1) t2)
      have i0 : (1 : Int) ≤ (q : Int) := by omega
      have i1 : (4294967296 : Int) ≤ (q : Int) := by omega
      have i2 : (r : Int) + (y1 : Int) ≤ 4294967295 := by omega
      have i3 : decide ((4294967296 : Int) ≤ (r : Int) + (y1 : Int)) = false := by simp; omega
      clear t1 t2 hq1
      go_wp2_with fail
      go_round
      case rel => exact ⟨q - 1, r + y1, by go_num, by go_num, HN⟩
      case measure => simp [intOf]; omega
    · have hq1 := HKn.out.pos HW1.out (Or.inr t2)
      have HN := hidq (HKn.out.next HW1.out (Or.inr t2) t3)
      have m1 := mul_half q y0 t1 C1.out
      have m2 := test_half t2
      have i0 : (1 : Int) ≤ (q : Int) := by omega
      have i1 : (q : Int) ≤ 4294967295 := by omega
      have i4 : decide ((4294967296 : Int) ≤ (q : Int)) = false := by simp; omega
      have i2 : (r : Int) + (y1 : Int) ≤ 4294967295 := by omega
      have i3 : decide ((4294967296 : Int) ≤ (r : Int) + (y1 : Int)) = false := by simp; omega
      clear t1 t2 t3 hq1
      go_wp2_with fail
      go_round
      case rel => exact ⟨q - 1, r + y1, by go_num, by go_num, HN⟩
      case measure => simp [intOf]; omega
    -- the three ways out of the first loop
    have key : ∃ (Q1 : Nat), (4294967296 ≤ q ∧ 4294967296 ≤ r + y1 ∧ 1 ≤ q ∧ (q : Int) - 1 = (Q1 : Int) ∧ Box (Q1 = (u * 4294967296 + v1) / (y1 * 4294967296 + y0))) ∨
        (q < 4294967296 ∧ 4294967296 * r + v1 < q * y0 ∧ 4294967296 ≤ r + y1 ∧ 1 ≤ q ∧ (q : Int) - 1 = (Q1 : Int) ∧ Box (Q1 = (u * 4294967296 + v1) / (y1 * 4294967296 + y0))) ∨
        (q < 4294967296 ∧ q * y0 ≤ 4294967296 * r + v1 ∧ q = Q1 ∧ Box (Q1 = (u * 4294967296 + v1) / (y1 * 4294967296 + y0))) := by
      rcases t with ⟨t1, t2⟩ | ⟨t1, t2, t3⟩ | ⟨t1, t2⟩
      · have hq1 := HKn.out.pos HW1.out (Or.inl t1)
        exact ⟨q - 1, Or.inl ⟨t1, t2, hq1, by omega, ⟨HKn.out.stop HW1.out (Or.inl t1) t2⟩⟩⟩
      · have hq1 := HKn.out.pos HW1.out (Or.inr t2)
        exact ⟨q - 1, Or.inr (Or.inl ⟨t1, t2, t3, hq1, by omega, ⟨HKn.out.stop HW1.out (Or.inr t2) t3⟩⟩)⟩
      · exact ⟨q, Or.inr (Or.inr ⟨t1, t2, rfl, ⟨HKn.out.done HW1.out t2⟩⟩)⟩
    obtain ⟨Q1, key⟩ := key
    have HQ : Box (Q1 = (u * 4294967296 + v1) / (y1 * 4294967296 + y0)) := by
      rcases key with k | k | k
      · exact k.2.2.2.2
      · exact k.2.2.2.2.2
      · exact k.2.2.2
    obtain ⟨R1, hR1⟩ : ∃ R1 : Nat, R1 = (u * 4294967296 + v1) % (y1 * 4294967296 + y0) := ⟨_, rfl⟩
    have HR := hidq hR1
    have hR1l : R1 < y1 * 4294967296 + y0 := by rw [hR1]; exact Nat.mod_lt _ (by omega)
    have hQ1l : Q1 < 4294967296 := by rw [HQ.out]; exact HW1.out.small
    have hdm : u * 4294967296 + v1 = Q1 * Y + R1 := by
      have := Nat.div_add_mod (u * 4294967296 + v1) (y1 * 4294967296 + y0)
      rw [← hR1, ← HQ.out, Nat.mul_comm] at this
      rw [← GY.out, HW3.out]; exact this.symm
    have hYy : Y = y1 * 4294967296 + y0 := by rw [← GY.out]; exact HW3.out
    have F1 : IntKind.u64.wrap (IntKind.u64.wrap (IntKind.u64.wrap ((u : Int) * 4294967296) + (v1 : Int)) - IntKind.u64.wrap ((Q1 : Int) * (Y : Int))) = (R1 : Int) := rest_word u v1 Q1 Y R1 hdm (by omega)
    -- the second half
    have HW4 := hidq (⟨by omega, by omega, C1.out, C6.out, hR1l⟩ : Ks R1 v0 y1 y0)
    obtain ⟨q2, hq2⟩ : ∃ q2 : Nat, R1 / y1 = q2 := ⟨_, rfl⟩
    obtain ⟨r2, hr2⟩ : ∃ r2 : Nat, R1 % y1 = r2 := ⟨_, rfl⟩
    have KS := HW4.out.start
    rw [hq2, hr2] at KS
    have HK2 := hidq KS
    have F2 : (R1 : Int) / (y1 : Int) = (q2 : Int) := by rw [← hq2]; simp
    have F3 : (R1 : Int) - (q2 : Int) * (y1 : Int) = (r2 : Int) := by
      have := KS.sum
      rw [← Int.natCast_mul]; omega
    have b2 : (0 : Int) ≤ (q2 : Int) * (y1 : Int) ∧ (q2 : Int) * (y1 : Int) ≤ 18446744073709551615 := by
      have := KS.sum
      rw [← Int.natCast_mul]; omega
    have B6 : (0 : Int) ≤ (R1 : Int) ∧ (R1 : Int) ≤ 18446744073709551615 := by omega
    have B7 : (0 : Int) ≤ (Q1 : Int) ∧ (Q1 : Int) ≤ 4294967295 := by omega
    have B8 : (0 : Int) ≤ (q2 : Int) ∧ (q2 : Int) ≤ 4294967297 := by have := KS.most HW4.out; omega
    have HDM := hidq hdm
    clear hR1 hR1l hQ1l hdm hYy hq2 hr2 KS
    rcases key with ⟨t1, t2, t3, t4, _⟩ | ⟨t1, t2, t3, t4, t5, _⟩ | ⟨t1, t2, t3, _⟩
    focus
      have i0 : (1 : Int) ≤ (q : Int) := by omega
      have i1 : (4294967296 : Int) ≤ (q : Int) := by omega
      have i3 : decide ((4294967296 : Int) ≤ (r : Int) + (y1 : Int)) = true := by simp; omega
      clear t1 t2 t3
      go_wp2_with fail
      clear t4 i0 i1 i3
    rotate_left
    focus
      have m1 := mul_half q y0 t1 C1.out
      have m2 : decide ((4294967296 : Int) * (r : Int) + (v1 : Int) < (q : Int) * (y0 : Int)) = true := by simpa using test_half t2
      have i0 : (1 : Int) ≤ (q : Int) := by omega
      have i1 : (q : Int) ≤ 4294967295 := by omega
      have i4 : decide ((4294967296 : Int) ≤ (q : Int)) = false := by simp; omega
      have i3 : decide ((4294967296 : Int) ≤ (r : Int) + (y1 : Int)) = true := by simp; omega
      clear t1 t2 t3 t4
      go_wp2_with fail
      clear t5 m1 m2 i0 i1 i3 i4
    rotate_left
    focus
      have m1 := mul_half q y0 t1 C1.out
      have m2 := test_half' t2
      have i1 : (q : Int) ≤ 4294967295 := by omega
      have i4 : decide ((4294967296 : Int) ≤ (q : Int)) = false := by simp; omega
      clear t1 t2
      subst q
      go_wp2_with fail
      clear m1 m2 i1 i4
    rotate_left
    all_goals
      clear F1 F2 F3 b2 hr hqm HKn
      go_loop [18, 16] (fun a b => ∃ q r : Nat, a = .int .u64 q ∧ b = .int .u64 r ∧ Box (Kn R1 v0 y1 y0 q r)) (fun a _ => (intOf a).toNat)
      case atStart => exact ⟨q2, r2, rfl, rfl, HK2⟩
      case round =>
        obtain ⟨q, r, rfl, rfl, HKn⟩ := hrel
        have hr : (0 : Int) ≤ (r : Int) ∧ (r : Int) ≤ 4294967295 := by have := HKn.out.rlt; omega
        have hqm : (0 : Int) ≤ (q : Int) ∧ (q : Int) ≤ 4294967297 := by have := HKn.out.most HW4.out; omega
        rcases ways q r v0 y1 y0 with ⟨t1, t2⟩ | ⟨t1, t2, t3⟩ | t
        · have hq1 := HKn.out.pos HW4.out (Or.inl t1)
          have HN := hidq (HKn.out.next HW4.out (Or.inl t1) t2)
          have i0 : (1 : Int) ≤ (q : Int) := by omega
          have i1 : (4294967296 : Int) ≤ (q : Int) := by omega
          have i2 : (r : Int) + (y1 : Int) ≤ 4294967295 := by omega
          have i3 : decide ((4294967296 : Int) ≤ (r : Int) + (y1 : Int)) = false := by simp; omega
          clear t1 t2 hq1
          go_wp2_with fail
          go_round
          case rel => exact ⟨q - 1, r + y1, by go_num, by go_num, HN⟩
          case measure => simp [intOf]; omega
        · have hq1 := HKn.out.pos HW4.out (Or.inr t2)
          have HN := hidq (HKn.out.next HW4.out (Or.inr t2) t3)
          have m1 := mul_half q y0 t1 C1.out
          have m2 := test_half t2
          have i0 : (1 : Int) ≤ (q : Int) := by omega
          have i1 : (q : Int) ≤ 4294967295 := by omega
          have i4 : decide ((4294967296 : Int) ≤ (q : Int)) = false := by simp; omega
          have i2 : (r : Int) + (y1 : Int) ≤ 4294967295 := by omega
          have i3 : decide ((4294967296 : Int) ≤ (r : Int) + (y1 : Int)) = false := by simp; omega
          clear t1 t2 t3 hq1
          go_wp2_with fail
          go_round
          case rel => exact ⟨q - 1, r + y1, by go_num, by go_num, HN⟩
          case measure => simp [intOf]; omega
        have key : ∃ (Q0 : Nat), (4294967296 ≤ q ∧ 4294967296 ≤ r + y1 ∧ 1 ≤ q ∧ (q : Int) - 1 = (Q0 : Int) ∧ Box (Q0 = (R1 * 4294967296 + v0) / (y1 * 4294967296 + y0))) ∨
            (q < 4294967296 ∧ 4294967296 * r + v0 < q * y0 ∧ 4294967296 ≤ r + y1 ∧ 1 ≤ q ∧ (q : Int) - 1 = (Q0 : Int) ∧ Box (Q0 = (R1 * 4294967296 + v0) / (y1 * 4294967296 + y0))) ∨
            (q < 4294967296 ∧ q * y0 ≤ 4294967296 * r + v0 ∧ q = Q0 ∧ Box (Q0 = (R1 * 4294967296 + v0) / (y1 * 4294967296 + y0))) := by
          rcases t with ⟨t1, t2⟩ | ⟨t1, t2, t3⟩ | ⟨t1, t2⟩
          · have hq1 := HKn.out.pos HW4.out (Or.inl t1)
            exact ⟨q - 1, Or.inl ⟨t1, t2, hq1, by omega, ⟨HKn.out.stop HW4.out (Or.inl t1) t2⟩⟩⟩
          · have hq1 := HKn.out.pos HW4.out (Or.inr t2)
            exact ⟨q - 1, Or.inr (Or.inl ⟨t1, t2, t3, hq1, by omega, ⟨HKn.out.stop HW4.out (Or.inr t2) t3⟩⟩)⟩
          · exact ⟨q, Or.inr (Or.inr ⟨t1, t2, rfl, ⟨HKn.out.done HW4.out t2⟩⟩)⟩
        obtain ⟨Q0, key⟩ := key
        have HQ0 : Box (Q0 = (R1 * 4294967296 + v0) / (y1 * 4294967296 + y0)) := by
          rcases key with k | k | k
          · exact k.2.2.2.2
          · exact k.2.2.2.2.2
          · exact k.2.2.2
        obtain ⟨R0, hR0⟩ : ∃ R0 : Nat, R0 = (R1 * 4294967296 + v0) % (y1 * 4294967296 + y0) := ⟨_, rfl⟩
        have HR0 := hidq hR0
        have hYy : Y = y1 * 4294967296 + y0 := by rw [← GY.out]; exact HW3.out
        have hR0l : R0 < y1 * 4294967296 + y0 := by rw [hR0]; exact Nat.mod_lt _ (by omega)
        have hQ0l : Q0 < 4294967296 := by rw [HQ0.out]; exact HW4.out.small
        have hdm : R1 * 4294967296 + v0 = Q0 * Y + R0 := by
          have := Nat.div_add_mod (R1 * 4294967296 + v0) (y1 * 4294967296 + y0)
          rw [← hR0, ← HQ0.out, Nat.mul_comm] at this
          rw [hYy]; exact this.symm
        have F1 : IntKind.u64.wrap (IntKind.u64.wrap (IntKind.u64.wrap ((R1 : Int) * 4294967296) + (v0 : Int)) - IntKind.u64.wrap ((Q0 : Int) * (Y : Int))) = (R0 : Int) := rest_word R1 v0 Q0 Y R0 hdm (by omega)
        have B8 : (0 : Int) ≤ (Q0 : Int) ∧ (Q0 : Int) ≤ 4294967295 := by omega
        have B9 : (0 : Int) ≤ (R0 : Int) ∧ (R0 : Int) ≤ 18446744073709551615 := by omega
        have HF := hidq (kn_whole (hi * 18446744073709551616 + lo) y (2 ^ s) u v1 v0 y1 y0 HW2.out HW3.out (by have := C2.out; omega) (Nat.pow_pos (by omega)) Q1 R1 Q0 R0 HQ.out HR.out HQ0.out HR0.out)
        clear hR0 hYy hR0l hQ0l hdm
        rcases key with ⟨t1, t2, t3, t4, _⟩ | ⟨t1, t2, t3, t4, t5, _⟩ | ⟨t1, t2, t3, _⟩
        focus
          have i0 : (1 : Int) ≤ (q : Int) := by omega
          have i1 : (4294967296 : Int) ≤ (q : Int) := by omega
          have i3 : decide ((4294967296 : Int) ≤ (r : Int) + (y1 : Int)) = true := by simp; omega
          clear t1 t2 t3
          go_wp2_with fail
          clear t4 i0 i1 i3
        rotate_left
        focus
          have m1 := mul_half q y0 t1 C1.out
          have m2 := test_half t2
          have i0 : (1 : Int) ≤ (q : Int) := by omega
          have i1 : (q : Int) ≤ 4294967295 := by omega
          have i4 : decide ((4294967296 : Int) ≤ (q : Int)) = false := by simp; omega
          have i3 : decide ((4294967296 : Int) ≤ (r : Int) + (y1 : Int)) = true := by simp; omega
          clear t1 t2 t3 t4
          go_wp2_with fail
          clear t5 m1 m2 i0 i1 i3 i4
        rotate_left
        focus
          have m1 := mul_half q y0 t1 C1.out
          have m2 : decide ((4294967296 : Int) * (r : Int) + (v0 : Int) < (q : Int) * (y0 : Int)) = false := by simpa using test_half' t2
          have i1 : (q : Int) ≤ 4294967295 := by omega
          have i4 : decide ((4294967296 : Int) ≤ (q : Int)) = false := by simp; omega
          clear t1 t2
          subst q
          go_wp2_with fail
          clear m1 m2 i1 i4
        rotate_left
        all_goals
          go_ret2
          refine ⟨ret_two ?_ ?_, 0, rfl⟩
          · rw [HQQ.out, ← HF.out.1]; simp
          · rw [HRR.out, ← HF.out.2]; simp
theorem div64_any (hi lo y : Nat) (w : World) (hhy : hi < y) (hy2 : y ≤ 1152921504606846976) (hl : lo < 18446744073709551616) :
    Calls Tryz.prog 228 #[.int .u64 hi, .int .u64 lo, .int .u64 y] w fun e w' => e = .returned (.tuple #[.int .u64 (((hi * 18446744073709551616 + lo) / y : Nat) : Int), .int .u64 (((hi * 18446744073709551616 + lo) % y : Nat) : Int)]) ∧ ∃ n, w' = w.drewN n := by
  by_cases h : hi = 0
  · subst h
    rw [Nat.zero_mul, Nat.zero_add]
    exact div64_low lo y w (by omega) hy2 hl
  · exact div64_high hi lo y _ _ w (by omega) hhy hy2 hl ⟨rfl⟩ ⟨rfl⟩
end Go.Proofs.YtcjcdpfjnomehaaGreat

/-
  What the program's numbers of 256 bits answer: times: the product by a word, as far as it has room; above: which of two is greater; cube: the third power.
-/
namespace Go.Proofs.YtcjcdpfjnomehaaGreat
open Go.RowKit
set_option linter.unusedSimpArgs false
set_option linter.unusedVariables false
def wv (a b c d : Nat) : Nat := a + 18446744073709551616 * (b + 18446744073709551616 * (c + 18446744073709551616 * d))
theorem mul_step (x n c : Nat) (hx : x < 18446744073709551616) (hn : n < 18446744073709551616) (hc : c < 18446744073709551616) :
    ∃ s m : Nat, s = (x * n % 18446744073709551616 + c) % 18446744073709551616 ∧ m = (x * n % 18446744073709551616 + c) / 18446744073709551616 ∧ s < 18446744073709551616 ∧
      x * n / 18446744073709551616 + m < 18446744073709551616 ∧ x * n + c = s + 18446744073709551616 * (x * n / 18446744073709551616 + m) := by
  have h : x * n ≤ 18446744073709551615 * 18446744073709551615 := Nat.mul_le_mul (by omega) (by omega)
  generalize x * n = p at *
  exact ⟨_, _, rfl, rfl, by omega, by omega, by omega⟩
theorem add64_0 (x y : Int) (hx : 0 ≤ x) (hy : 0 ≤ y) (w : World) : (callFunc 224 #[.int .u64 x, .int .u64 y, .int .u64 0]).run Tryz.prog w =
    .ok (.value (.tuple #[.int .u64 ((x + y) % 18446744073709551616), .int .u64 ((x + y) / 18446744073709551616)])) w := by
  rw [run_callFunc_extern Tryz.func224 (by kernel_rfl) (by kernel_rfl) (by kernel_rfl) (e := add64Entry) (by kernel_rfl), run_add64 x y 0 hx hy (by omega) (by omega)]
  simp [Result.andThen]
theorem times_val (x0 x1 x2 x3 n y0 y1 y2 y3 c1 c2 c3 c4 : Nat) (e0 : x0 * n + 0 = y0 + 18446744073709551616 * c1) (e1 : x1 * n + c1 = y1 + 18446744073709551616 * c2)
    (e2 : x2 * n + c2 = y2 + 18446744073709551616 * c3) (e3 : x3 * n + c3 = y3 + 18446744073709551616 * c4) : wv x0 x1 x2 x3 * n = wv y0 y1 y2 (y3 + 18446744073709551616 * c4) := by
  unfold wv
  rw [Nat.add_mul, Nat.mul_assoc, Nat.add_mul, Nat.mul_assoc, Nat.add_mul, Nat.mul_assoc]
  generalize x0 * n = p0 at *
  generalize x1 * n = p1 at *
  generalize x2 * n = p2 at *
  generalize x3 * n = p3 at *
  omega
set_option maxRecDepth 100000 in
set_option maxHeartbeats 2000000 in
theorem times_w (x0 x1 x2 x3 n : Nat) (h0 : x0 < 18446744073709551616) (h1 : x1 < 18446744073709551616) (h2 : x2 < 18446744073709551616) (h3 : x3 < 18446744073709551616) (hn : n < 18446744073709551616) :
    ∃ y0 y1 y2 y3 : Nat, (y0 < 18446744073709551616 ∧ y1 < 18446744073709551616 ∧ y2 < 18446744073709551616 ∧ y3 < 18446744073709551616) ∧ (∃ c, wv x0 x1 x2 x3 * n = wv y0 y1 y2 (y3 + 18446744073709551616 * c)) ∧
      ∀ w : World, Calls Tryz.prog 219 #[.agg #[.int .u64 x0, .int .u64 x1, .int .u64 x2, .int .u64 x3], .int .u64 n] w fun e w' => e = .returned (.agg #[.int .u64 y0, .int .u64 y1, .int .u64 y2, .int .u64 y3]) ∧ Below w.heap.size w w' := by
  obtain ⟨y0, m0, a0, b0, l0, k0, e0⟩ := mul_step x0 n 0 h0 hn (by omega)
  obtain ⟨c1, hc1⟩ : ∃ c1, x0 * n / 18446744073709551616 + m0 = c1 := ⟨_, rfl⟩
  rw [hc1] at k0 e0
  obtain ⟨y1, m1, a1, b1, l1, k1, e1⟩ := mul_step x1 n c1 h1 hn k0
  obtain ⟨c2, hc2⟩ : ∃ c2, x1 * n / 18446744073709551616 + m1 = c2 := ⟨_, rfl⟩
  rw [hc2] at k1 e1
  obtain ⟨y2, m2, a2, b2, l2, k2, e2⟩ := mul_step x2 n c2 h2 hn k1
  obtain ⟨c3, hc3⟩ : ∃ c3, x2 * n / 18446744073709551616 + m2 = c3 := ⟨_, rfl⟩
  rw [hc3] at k2 e2
  obtain ⟨y3, m3, a3, b3, l3, k3, e3⟩ := mul_step x3 n c3 h3 hn k2
  obtain ⟨c4, hc4⟩ : ∃ c4, x3 * n / 18446744073709551616 + m3 = c4 := ⟨_, rfl⟩
  rw [hc4] at k3 e3
  have HV := hidq (times_val x0 x1 x2 x3 n y0 y1 y2 y3 c1 c2 c3 c4 e0 e1 e2 e3)
  clear e0 e1 e2 e3
  have q0 : x0 * n % 18446744073709551616 < 18446744073709551616 := by omega
  have q1 : x1 * n % 18446744073709551616 < 18446744073709551616 := by omega
  have q2 : x2 * n % 18446744073709551616 < 18446744073709551616 := by omega
  have q3 : x3 * n % 18446744073709551616 < 18446744073709551616 := by omega
  have ad : ∀ (l c s m : Nat), s = (l + c) % 18446744073709551616 → m = (l + c) / 18446744073709551616 → ∀ w, (callFunc 224 #[.int .u64 (l : Int), .int .u64 (c : Int), .int .u64 0]).run Tryz.prog w = .ok (.value (.tuple #[.int .u64 (s : Int), .int .u64 (m : Int)])) w := by
    intro l c s m h1 h2 w
    have e1 : ((l : Int) + (c : Int)) % 18446744073709551616 = (s : Int) := by omega
    have e2 : ((l : Int) + (c : Int)) / 18446744073709551616 = (m : Int) := by omega
    rw [add64_0 l c (by omega) (by omega), e1, e2]
  have A0 := ad _ 0 _ _ a0 b0
  have A1 := ad _ c1 _ _ a1 b1
  have A2 := ad _ c2 _ _ a2 b2
  have A3 := ad _ c3 _ _ a3 b3
  have A0 : ∀ w, (callFunc 224 #[.int .u64 ((x0 * n % 18446744073709551616 : Nat) : Int), .int .u64 0, .int .u64 0]).run Tryz.prog w = .ok (.value (.tuple #[.int .u64 (y0 : Int), .int .u64 (m0 : Int)])) w := A0
  have C1 : ((x0 * n / 18446744073709551616 : Nat) : Int) + (m0 : Int) = (c1 : Int) := by omega
  have C2 : ((x1 * n / 18446744073709551616 : Nat) : Int) + (m1 : Int) = (c2 : Int) := by omega
  have C3 : ((x2 * n / 18446744073709551616 : Nat) : Int) + (m2 : Int) = (c3 : Int) := by omega
  have C4 : ((x3 * n / 18446744073709551616 : Nat) : Int) + (m3 : Int) = (c4 : Int) := by omega
  have B1 : (0 : Int) ≤ (c1 : Int) ∧ (c1 : Int) ≤ 18446744073709551615 := by omega
  have B2 : (0 : Int) ≤ (c2 : Int) ∧ (c2 : Int) ≤ 18446744073709551615 := by omega
  have B3 : (0 : Int) ≤ (c3 : Int) ∧ (c3 : Int) ≤ 18446744073709551615 := by omega
  have B4 : (0 : Int) ≤ (c4 : Int) ∧ (c4 : Int) ≤ 18446744073709551615 := by omega
  have HL := hidq (show y0 < 18446744073709551616 ∧ y1 < 18446744073709551616 ∧ y2 < 18446744073709551616 ∧ y3 < 18446744073709551616 from ⟨l0, l1, l2, l3⟩)
  have HH0 := hidq h0
  have HH1 := hidq h1
  have HH2 := hidq h2
  have HH3 := hidq h3
  have HHn := hidq hn
  clear ad a0 a1 a2 a3 b0 b1 b2 b3 hc1 hc2 hc3 hc4 k0 k1 k2 k3 l0 l1 l2 l3 q0 q1 q2 q3 h0 h1 h2 h3 hn
  refine ⟨y0, y1, y2, y3, HL.out, ⟨c4, HV.out⟩, fun w => ?_⟩
  go_enter Tryz.func219, Tryz.ntmps219
  go_wp2_with fail
  refine wp_loop_rounds 5 ?_
  rw [rounds_succ]
  go_wp2_with fail
  refine (Tryz.bits_Mul64 x0 n HH0.out HHn.out _).mono ?_
  rintro e w' ⟨rfl, hw'⟩
  subst w'
  generalize x0 * n / 18446744073709551616 = hi0 at *
  generalize x0 * n % 18446744073709551616 = lo0 at *
  go_wp2_with fail
  rw [rounds_succ]
  go_wp2_with fail
  refine (Tryz.bits_Mul64 x1 n HH1.out HHn.out _).mono ?_
  rintro e w' ⟨rfl, hw'⟩
  subst w'
  generalize x1 * n / 18446744073709551616 = hi1 at *
  generalize x1 * n % 18446744073709551616 = lo1 at *
  go_wp2_with fail
  rw [rounds_succ]
  go_wp2_with fail
  refine (Tryz.bits_Mul64 x2 n HH2.out HHn.out _).mono ?_
  rintro e w' ⟨rfl, hw'⟩
  subst w'
  generalize x2 * n / 18446744073709551616 = hi2 at *
  generalize x2 * n % 18446744073709551616 = lo2 at *
  go_wp2_with fail
  rw [rounds_succ]
  go_wp2_with fail
  refine (Tryz.bits_Mul64 x3 n HH3.out HHn.out _).mono ?_
  rintro e w' ⟨rfl, hw'⟩
  subst w'
  generalize x3 * n / 18446744073709551616 = hi3 at *
  generalize x3 * n % 18446744073709551616 = lo3 at *
  go_wp2_with fail
  rw [rounds_succ]
  go_wp2_with fail
  refine bodyPost_ret (v := .agg #[.int .u64 y0, .int .u64 y1, .int .u64 y2, .int .u64 y3]) (by simp [results, Tryz.results219, go_sem]) rfl ⟨rfl, ?_⟩
  exact ((Below.refl _ _).alloc (Nat.le_refl _) _).alloc (by simp) _
theorem above_at (x0 x1 x2 x3 v0 v1 v2 v3 : Nat) (a0 : x0 < 18446744073709551616) (a1 : x1 < 18446744073709551616) (a2 : x2 < 18446744073709551616) (b0 : v0 < 18446744073709551616) (b1 : v1 < 18446744073709551616) (b2 : v2 < 18446744073709551616) :
    (¬ x3 = v3 → decide (v3 < x3) = decide (wv v0 v1 v2 v3 < wv x0 x1 x2 x3)) ∧ (x3 = v3 → ¬ x2 = v2 → decide (v2 < x2) = decide (wv v0 v1 v2 v3 < wv x0 x1 x2 x3)) ∧
    (x3 = v3 → x2 = v2 → ¬ x1 = v1 → decide (v1 < x1) = decide (wv v0 v1 v2 v3 < wv x0 x1 x2 x3)) ∧
    (x3 = v3 → x2 = v2 → x1 = v1 → ¬ x0 = v0 → decide (v0 < x0) = decide (wv v0 v1 v2 v3 < wv x0 x1 x2 x3)) ∧
    (x3 = v3 → x2 = v2 → x1 = v1 → x0 = v0 → false = decide (wv v0 v1 v2 v3 < wv x0 x1 x2 x3)) := by
  unfold wv
  refine ⟨?_, ?_, ?_, ?_, ?_⟩
  · intro h; rw [decide_eq_decide]; omega
  · intro h k; rw [decide_eq_decide]; omega
  · intro h k l; rw [decide_eq_decide]; omega
  · intro h k l m; rw [decide_eq_decide]; omega
  · intro h k l m; subst h k l m; simp
set_option maxRecDepth 100000 in
set_option maxHeartbeats 2000000 in
theorem above_w (x0 x1 x2 x3 v0 v1 v2 v3 : Nat) (w : World) (r : Bool) (HR : Box (r = decide (wv v0 v1 v2 v3 < wv x0 x1 x2 x3)))
    (a : Box (x0 < 18446744073709551616 ∧ x1 < 18446744073709551616 ∧ x2 < 18446744073709551616 ∧ x3 < 18446744073709551616)) (b : Box (v0 < 18446744073709551616 ∧ v1 < 18446744073709551616 ∧ v2 < 18446744073709551616 ∧ v3 < 18446744073709551616)) :
    Calls Tryz.prog 221 #[.agg #[.int .u64 x0, .int .u64 x1, .int .u64 x2, .int .u64 x3], .agg #[.int .u64 v0, .int .u64 v1, .int .u64 v2, .int .u64 v3]] w fun e w' => e = .returned (.bool r) ∧ Below w.heap.size w w' := by
  have HA := hidq (above_at x0 x1 x2 x3 v0 v1 v2 v3 a.out.1 a.out.2.1 a.out.2.2.1 b.out.1 b.out.2.1 b.out.2.2.1)
  have HW : ∀ (o1 o2 : Obj), Hid (Below w.heap.size w ((w.alloc o1).alloc o2)) := fun o1 o2 => ((Below.refl _ _).alloc (Nat.le_refl _) _).alloc (by simp) _
  by_cases h3 : x3 = v3
  · have g3 : ((x3 : Int) != (v3 : Int)) = false := by rw [bne_eq_false_iff_eq]; omega
    have E3 := hidq h3
    clear h3
    by_cases h2 : x2 = v2
    · have g2 : ((x2 : Int) != (v2 : Int)) = false := by rw [bne_eq_false_iff_eq]; omega
      have E2 := hidq h2
      clear h2
      by_cases h1 : x1 = v1
      · have g1 : ((x1 : Int) != (v1 : Int)) = false := by rw [bne_eq_false_iff_eq]; omega
        have E1 := hidq h1
        clear h1
        by_cases h0 : x0 = v0
        · have g0 : ((x0 : Int) != (v0 : Int)) = false := by rw [bne_eq_false_iff_eq]; omega
          have E0 := hidq h0
          clear h0
          go_enter Tryz.func221, Tryz.ntmps221
          go_wp2_with fail
          refine wp_loop_rounds 5 ?_
          rw [rounds_succ]
          go_wp2_with fail
          go_quiet (fail)
          go_wp2_with fail
          rw [rounds_succ]
          go_wp2_with fail
          go_quiet (fail)
          go_wp2_with fail
          rw [rounds_succ]
          go_wp2_with fail
          go_quiet (fail)
          go_wp2_with fail
          rw [rounds_succ]
          go_wp2_with fail
          go_quiet (fail)
          go_wp2_with fail
          rw [rounds_succ]
          go_wp2_with fail
          go_ret
          exact ⟨ret_bool (by rw [HR.out]; exact HA.out.2.2.2.2 E3.out E2.out E1.out E0.out), by repeat (first | exact (HW _ _).out | refine Below.trans ?_ (bel_drewN _ _ _))⟩
        · have g0 : ((x0 : Int) != (v0 : Int)) = true := by rw [bne_iff_ne]; omega
          have E0 := hidq h0
          clear h0
          go_enter Tryz.func221, Tryz.ntmps221
          go_wp2_with fail
          refine wp_loop_rounds 5 ?_
          rw [rounds_succ]
          go_wp2_with fail
          go_quiet (fail)
          go_wp2_with fail
          rw [rounds_succ]
          go_wp2_with fail
          go_quiet (fail)
          go_wp2_with fail
          rw [rounds_succ]
          go_wp2_with fail
          go_quiet (fail)
          go_wp2_with fail
          rw [rounds_succ]
          go_wp2_with fail
          go_quiet (fail)
          go_wp2_with fail
          go_quiet (fail)
          go_wp2_with fail
          go_ret
          exact ⟨ret_bool (by rw [HR.out]; exact HA.out.2.2.2.1 E3.out E2.out E1.out E0.out), by repeat (first | exact (HW _ _).out | refine Below.trans ?_ (bel_drewN _ _ _))⟩
      · have g1 : ((x1 : Int) != (v1 : Int)) = true := by rw [bne_iff_ne]; omega
        have E1 := hidq h1
        clear h1
        go_enter Tryz.func221, Tryz.ntmps221
        go_wp2_with fail
        refine wp_loop_rounds 5 ?_
        rw [rounds_succ]
        go_wp2_with fail
        go_quiet (fail)
        go_wp2_with fail
        rw [rounds_succ]
        go_wp2_with fail
        go_quiet (fail)
        go_wp2_with fail
        rw [rounds_succ]
        go_wp2_with fail
        go_quiet (fail)
        go_wp2_with fail
        go_quiet (fail)
        go_wp2_with fail
        go_ret
        exact ⟨ret_bool (by rw [HR.out]; exact HA.out.2.2.1 E3.out E2.out E1.out), by repeat (first | exact (HW _ _).out | refine Below.trans ?_ (bel_drewN _ _ _))⟩
    · have g2 : ((x2 : Int) != (v2 : Int)) = true := by rw [bne_iff_ne]; omega
      have E2 := hidq h2
      clear h2
      go_enter Tryz.func221, Tryz.ntmps221
      go_wp2_with fail
      refine wp_loop_rounds 5 ?_
      rw [rounds_succ]
      go_wp2_with fail
      go_quiet (fail)
      go_wp2_with fail
      rw [rounds_succ]
      go_wp2_with fail
      go_quiet (fail)
      go_wp2_with fail
      go_quiet (fail)
      go_wp2_with fail
      go_ret
      exact ⟨ret_bool (by rw [HR.out]; exact HA.out.2.1 E3.out E2.out), by repeat (first | exact (HW _ _).out | refine Below.trans ?_ (bel_drewN _ _ _))⟩
  · have g3 : ((x3 : Int) != (v3 : Int)) = true := by rw [bne_iff_ne]; omega
    have E3 := hidq h3
    clear h3
    go_enter Tryz.func221, Tryz.ntmps221
    go_wp2_with fail
    refine wp_loop_rounds 5 ?_
    rw [rounds_succ]
    go_wp2_with fail
    go_quiet (fail)
    go_wp2_with fail
    go_quiet (fail)
    go_wp2_with fail
    go_ret
    exact ⟨ret_bool (by rw [HR.out]; exact HA.out.1 E3.out), by repeat (first | exact (HW _ _).out | refine Below.trans ?_ (bel_drewN _ _ _))⟩
end Go.Proofs.YtcjcdpfjnomehaaGreat

/-
  What the program's MulDiv, Mul, Scale, Sub and Neg answer: MulDiv: the exact product of the first two clamped numbers by the third, rounded down and clamped.
-/
namespace Go.Proofs.YtcjcdpfjnomehaaGreat
open Go.RowKit
set_option linter.unusedSimpArgs false
set_option linter.unusedVariables false
def mdv (a b c : Int) : Int := if c = 0 then 0 else cl ((cl a * cl b).fdiv (cl c))
theorem fd_plus (A B C : Int) (h : C ≠ 0) (s : (A < 0 ↔ B < 0) ↔ 0 < C) : (A * B).fdiv C = ((A.natAbs * B.natAbs / C.natAbs : Nat) : Int) := by
  have hz : 0 < C.natAbs := by omega
  have e := Nat.div_add_mod (A.natAbs * B.natAbs) C.natAbs
  have hm := Nat.mod_lt (A.natAbs * B.natAbs) hz
  have hab : ((A.natAbs * B.natAbs : Nat) : Int) = ((A * B).natAbs : Int) := by rw [Int.natAbs_mul]
  generalize hp : A.natAbs * B.natAbs = p at *
  generalize hq : p / C.natAbs = q at *
  generalize hr : p % C.natAbs = r at *
  have e2 : ((C.natAbs : Int)) * (q : Int) + (r : Int) = (p : Int) := by rw [← e]; simp
  have sg : ((A < 0 ↔ B < 0) → 0 ≤ A * B) ∧ (¬ (A < 0 ↔ B < 0) → A * B ≤ 0) := by
    constructor
    · intro h
      by_cases ha : A < 0
      · exact Int.mul_nonneg_of_nonpos_of_nonpos (by omega) (by omega)
      · exact Int.mul_nonneg (by omega) (by omega)
    · intro h
      by_cases ha : A < 0
      · exact Int.mul_nonpos_of_nonpos_of_nonneg (by omega) (by omega)
      · exact Int.mul_nonpos_of_nonneg_of_nonpos (by omega) (by omega)
  generalize A * B = S at *
  by_cases hc : 0 < C
  · have hS := sg.1 (s.2 hc)
    have ec : ((C.natAbs : Int)) = C := by omega
    rw [ec] at e2
    exact (fd_uniq S C q r (by rw [Int.mul_comm]; omega) (Or.inl ⟨by omega, by omega⟩)).1
  · have hS := sg.2 (fun x => hc (s.1 x))
    have ec : ((C.natAbs : Int)) = -C := by omega
    rw [ec, Int.neg_mul] at e2
    exact (fd_uniq S C q (-r) (by rw [Int.mul_comm]; omega) (Or.inr ⟨by omega, by omega⟩)).1
theorem fd_minus (A B C : Int) (h : C ≠ 0) (s : (A < 0 ↔ B < 0) ↔ C < 0) :
    (A.natAbs * B.natAbs % C.natAbs = 0 → (A * B).fdiv C = -((A.natAbs * B.natAbs / C.natAbs : Nat) : Int)) ∧
    (A.natAbs * B.natAbs % C.natAbs ≠ 0 → (A * B).fdiv C = -(((A.natAbs * B.natAbs / C.natAbs : Nat) : Int) + 1)) := by
  have hz : 0 < C.natAbs := by omega
  have e := Nat.div_add_mod (A.natAbs * B.natAbs) C.natAbs
  have hm := Nat.mod_lt (A.natAbs * B.natAbs) hz
  have hab : ((A.natAbs * B.natAbs : Nat) : Int) = ((A * B).natAbs : Int) := by rw [Int.natAbs_mul]
  generalize hp : A.natAbs * B.natAbs = p at *
  generalize hq : p / C.natAbs = q at *
  generalize hr : p % C.natAbs = r at *
  have e2 : ((C.natAbs : Int)) * (q : Int) + (r : Int) = (p : Int) := by rw [← e]; simp
  have sg : ((A < 0 ↔ B < 0) → 0 ≤ A * B) ∧ (¬ (A < 0 ↔ B < 0) → A * B ≤ 0) := by
    constructor
    · intro h
      by_cases ha : A < 0
      · exact Int.mul_nonneg_of_nonpos_of_nonpos (by omega) (by omega)
      · exact Int.mul_nonneg (by omega) (by omega)
    · intro h
      by_cases ha : A < 0
      · exact Int.mul_nonpos_of_nonpos_of_nonneg (by omega) (by omega)
      · exact Int.mul_nonpos_of_nonneg_of_nonpos (by omega) (by omega)
  generalize A * B = S at *
  by_cases hc : C < 0
  · have hS := sg.1 (s.2 hc)
    have ec : ((C.natAbs : Int)) = -C := by omega
    rw [ec, Int.neg_mul] at e2
    constructor
    · intro h0
      exact (fd_uniq S C (-q) 0 (by rw [Int.neg_mul, Int.mul_comm]; omega) (Or.inr ⟨by omega, by omega⟩)).1
    · intro h0
      exact (fd_uniq S C (-(q + 1)) (r + C) (by rw [Int.neg_mul, Int.add_mul, Int.mul_comm]; omega) (Or.inr ⟨by omega, by omega⟩)).1
  · have hS := sg.2 (fun x => hc (s.1 x))
    have ec : ((C.natAbs : Int)) = C := by omega
    rw [ec] at e2
    constructor
    · intro h0
      exact (fd_uniq S C (-q) 0 (by rw [Int.neg_mul, Int.mul_comm]; omega) (Or.inl ⟨by omega, by omega⟩)).1
    · intro h0
      exact (fd_uniq S C (-(q + 1)) (-r + C) (by rw [Int.neg_mul, Int.add_mul, Int.mul_comm]; omega) (Or.inl ⟨by omega, by omega⟩)).1
theorem cl_min (q : Int) (h0 : 0 ≤ q) : cl (min q 1152921504606846976) = cl q ∧ cl (-min q 1152921504606846976) = cl (-q) ∧ cl (-(min q 1152921504606846976 + 1)) = cl (-(q + 1)) := by
  by_cases h : q ≤ 1152921504606846976
  · rw [Int.min_eq_left h]; exact ⟨rfl, rfl, rfl⟩
  · rw [Int.min_eq_right (by omega)]
    refine ⟨?_, ?_, ?_⟩ <;> unfold cl <;> split <;> (try split) <;> (try split) <;> (try split) <;> omega
theorem div_great (p z : Nat) (hz : 0 < z) (h : z ≤ p / 18446744073709551616) : 18446744073709551616 ≤ p / z := by
  rw [Nat.le_div_iff_mul_le (by omega)] at h
  rw [Nat.le_div_iff_mul_le hz]
  rw [Nat.mul_comm]; exact h
theorem div_small (p z : Nat) (h : p / 18446744073709551616 < z) : p / z < 18446744073709551616 := by
  have hz : 0 < z := by omega
  rw [Nat.div_lt_iff_lt_mul (by omega)] at h
  rw [Nat.div_lt_iff_lt_mul hz]
  rw [Nat.mul_comm]; exact h
set_option maxRecDepth 100000 in
set_option maxHeartbeats 400000 in
theorem limit_t (w : World) : Calls Tryz.prog 227 #[.bool true] w fun e w' => e = .returned (.int .i64 (-1152921504606846976)) ∧ w' = w := by
  go_enter Tryz.func227, Tryz.ntmps227
  go_wp2
  go_ret
  exact ⟨rfl, rfl⟩
set_option maxRecDepth 100000 in
set_option maxHeartbeats 400000 in
theorem limit_f (w : World) : Calls Tryz.prog 227 #[.bool false] w fun e w' => e = .returned (.int .i64 1152921504606846976) ∧ w' = w := by
  go_enter Tryz.func227, Tryz.ntmps227
  go_wp2
  go_ret
  exact ⟨rfl, rfl⟩
set_option maxRecDepth 100000 in
set_option maxHeartbeats 400000 in
theorem muldiv_zero (a b c : Int) (w : World) (hc : (c == 0) = true) :
    Calls Tryz.prog 226 #[.int .i64 a, .int .i64 b, .int .i64 c] w fun e w' => e = .returned (.tuple #[.int .i64 0, .bool false]) ∧ ∃ n, w' = w.drewN n := by
  go_enter Tryz.func226, Tryz.ntmps226
  go_wp2_with fail
  go_ret2
  exact ⟨rfl, 0, rfl⟩
theorem ret_ib {k : IntKind} {a c : Int} {b : Bool} (h1 : a = c) : Ending.returned (.tuple #[.int k a, .bool b]) = .returned (.tuple #[.int k c, .bool b]) := by rw [h1]
set_option maxRecDepth 100000 in
set_option maxHeartbeats 4000000 in
theorem muldiv_minus (a b c R : Int) (w : World) (hc : (c == 0) = false) (hs : (cl a < 0 ∧ cl b < 0 ∧ cl c < 0) ∨ (cl a < 0 ∧ 0 ≤ cl b ∧ 0 ≤ cl c) ∨ (0 ≤ cl a ∧ cl b < 0 ∧ 0 ≤ cl c) ∨ (0 ≤ cl a ∧ 0 ≤ cl b ∧ cl c < 0)) (HR : Box (R = cl ((cl a * cl b).fdiv (cl c)))) :
    Calls Tryz.prog 226 #[.int .i64 a, .int .i64 b, .int .i64 c] w fun e w' => e = .returned (.tuple #[.int .i64 R, .bool true]) ∧ ∃ n, w' = w.drewN n := by
  rcases hs with ⟨s1, s2, s3⟩ | ⟨s1, s2, s3⟩ | ⟨s1, s2, s3⟩ | ⟨s1, s2, s3⟩ <;> (
  have ha := cl_le a
  have hb := cl_le b
  have hcl := cl_le c
  have hz : ¬ cl c = 0 := by rw [cl_zero]; simpa using hc
  have HF := hidq (fd_minus (cl a) (cl b) (cl c) hz (by omega))
  first | have D1 : decide (cl a < 0) = true := by simp; omega | have D1 : decide (cl a < 0) = false := by simp; omega
  first | have D2 : decide (cl b < 0) = true := by simp; omega | have D2 : decide (cl b < 0) = false := by simp; omega
  first | have D3 : decide (cl c < 0) = true := by simp; omega | have D3 : decide (cl c < 0) = false := by simp; omega
  go_enter Tryz.func226, Tryz.ntmps226
  go_wp2_with (first | (go_at_call 187; refine (clamp_any _ _).mono ?_; rintro e w' ⟨rfl, hw'⟩; subst w') | (go_at_call 217; refine (size_any _ _ (by omega) (by omega)).mono ?_; rintro e w' ⟨rfl, hw'⟩; subst w'))
  have hx : (cl a).natAbs ≤ 1152921504606846976 := by omega
  have hy : (cl b).natAbs ≤ 1152921504606846976 := by omega
  have hz1 : (cl c).natAbs ≤ 1152921504606846976 := by omega
  have hz0 : 0 < (cl c).natAbs := by omega
  refine (Tryz.bits_Mul64 _ _ (by omega) (by omega) _).mono ?_
  rintro e w' ⟨rfl, hw'⟩
  subst w'
  generalize hp : (cl a).natAbs * (cl b).natAbs = p at *
  have hpl : p ≤ 1329227995784915872903807060280344576 := by
    rw [← hp]; exact Nat.mul_le_mul hx hy
  clear hp
  have d1 : p / 18446744073709551616 ≤ 72057594037927936 := by omega
  have d2 : p % 18446744073709551616 ≤ 18446744073709551615 := by omega
  have HU : Box (p / 18446744073709551616 * 18446744073709551616 + p % 18446744073709551616 = p) := ⟨by have := Nat.div_add_mod p 18446744073709551616; rw [Nat.mul_comm] at this; exact this⟩
  have HG := hidq (div_great p _ hz0)
  have HS := hidq (div_small p (cl c).natAbs)
  generalize p / 18446744073709551616 = hi at *
  generalize p % 18446744073709551616 = lo at *
  by_cases hg : (cl c).natAbs ≤ hi
  · have hq := HG.out hg
    have g : (((cl c).natAbs : Nat) : Int) ≤ (hi : Int) := by omega
    have HL : Box (R = -1152921504606846976) := by
      refine ⟨?_⟩
      have hf := HF.out
      rw [HR.out]
      by_cases h0 : p % (cl c).natAbs = 0
      · rw [hf.1 h0]
        generalize p / (cl c).natAbs = q at *
        unfold cl; rw [if_pos (by omega)]
      · rw [hf.2 h0]
        generalize p / (cl c).natAbs = q at *
        unfold cl; rw [if_pos (by omega)]
    clear hq hg
    go_wp2_with (first | (go_at_call 217; refine (size_any _ _ (by omega) (by omega)).mono ?_; rintro e w' ⟨rfl, hw'⟩; subst w') | (go_at_call 227; refine (limit_t _).mono ?_; rintro e w' ⟨rfl, hw'⟩; subst w'))
    go_ret2
    exact ⟨ret_ib (by rw [HL.out]), 0, rfl⟩
  · have hq := HS.out (by omega)
    have g : (hi : Int) < (((cl c).natAbs : Nat) : Int) := by omega
    go_wp2_with (go_at_call 217; refine (size_any _ _ (by omega) (by omega)).mono ?_; rintro e w' ⟨rfl, hw'⟩; subst w')
    refine (div64_any hi lo _ _ (by omega) hz1 (by omega)).mono ?_
    rintro e w' ⟨rfl, n, rfl⟩
    rw [HU.out]
    clear HU
    have HF2 : Box ((p % (cl c).natAbs = 0 → R = cl (-((p / (cl c).natAbs : Nat) : Int))) ∧ (p % (cl c).natAbs ≠ 0 → R = cl (-(((p / (cl c).natAbs : Nat) : Int) + 1)))) := by
      refine ⟨?_⟩
      have hf := HF.out
      rw [HR.out]
      exact ⟨fun h => by rw [hf.1 h], fun h => by rw [hf.2 h]⟩
    generalize p / (cl c).natAbs = q at *
    generalize p % (cl c).natAbs = r at *
    have B1 : (0 : Int) ≤ (q : Int) ∧ (q : Int) ≤ 18446744073709551615 := by omega
    clear hq d1 d2 hpl g hg HF HG HS
    have HC := hidq (cl_min (q : Int) (by omega))
    by_cases h0 : r = 0
    · have k0 : ((r : Int) != 0) = false := by simpa using h0
      have HF3 : Box (R = cl (-(q : Int))) := ⟨HF2.out.1 h0⟩
      clear h0
      go_wp2_with (go_at_call 187; refine (clamp_any _ _).mono ?_; rintro e w' ⟨rfl, hw'⟩; subst w')
      go_ret2
      exact ⟨ret_ib (by rw [HF3.out, HC.out.2.1]), _, rfl⟩
    · have k0 : ((r : Int) != 0) = true := by simpa using h0
      have HF3 : Box (R = cl (-((q : Int) + 1))) := ⟨HF2.out.2 h0⟩
      clear h0
      go_wp2_with (go_at_call 187; refine (clamp_any _ _).mono ?_; rintro e w' ⟨rfl, hw'⟩; subst w')
      go_ret2
      exact ⟨ret_ib (by rw [HF3.out, HC.out.2.2]), _, rfl⟩)
set_option maxRecDepth 100000 in
set_option maxHeartbeats 4000000 in
theorem muldiv_plus (a b c R : Int) (w : World) (hc : (c == 0) = false) (hs : (cl a < 0 ∧ cl b < 0 ∧ 0 ≤ cl c) ∨ (cl a < 0 ∧ 0 ≤ cl b ∧ cl c < 0) ∨ (0 ≤ cl a ∧ cl b < 0 ∧ cl c < 0) ∨ (0 ≤ cl a ∧ 0 ≤ cl b ∧ 0 ≤ cl c)) (HR : Box (R = cl ((cl a * cl b).fdiv (cl c)))) :
    Calls Tryz.prog 226 #[.int .i64 a, .int .i64 b, .int .i64 c] w fun e w' => e = .returned (.tuple #[.int .i64 R, .bool true]) ∧ ∃ n, w' = w.drewN n := by
  rcases hs with ⟨s1, s2, s3⟩ | ⟨s1, s2, s3⟩ | ⟨s1, s2, s3⟩ | ⟨s1, s2, s3⟩ <;> (
  have ha := cl_le a
  have hb := cl_le b
  have hcl := cl_le c
  have hz : ¬ cl c = 0 := by rw [cl_zero]; simpa using hc
  have HF := hidq (fd_plus (cl a) (cl b) (cl c) hz (by omega))
  first | have D1 : decide (cl a < 0) = true := by simp; omega | have D1 : decide (cl a < 0) = false := by simp; omega
  first | have D2 : decide (cl b < 0) = true := by simp; omega | have D2 : decide (cl b < 0) = false := by simp; omega
  first | have D3 : decide (cl c < 0) = true := by simp; omega | have D3 : decide (cl c < 0) = false := by simp; omega
  go_enter Tryz.func226, Tryz.ntmps226
  go_wp2_with (first | (go_at_call 187; refine (clamp_any _ _).mono ?_; rintro e w' ⟨rfl, hw'⟩; subst w') | (go_at_call 217; refine (size_any _ _ (by omega) (by omega)).mono ?_; rintro e w' ⟨rfl, hw'⟩; subst w'))
  have hx : (cl a).natAbs ≤ 1152921504606846976 := by omega
  have hy : (cl b).natAbs ≤ 1152921504606846976 := by omega
  have hz1 : (cl c).natAbs ≤ 1152921504606846976 := by omega
  have hz0 : 0 < (cl c).natAbs := by omega
  refine (Tryz.bits_Mul64 _ _ (by omega) (by omega) _).mono ?_
  rintro e w' ⟨rfl, hw'⟩
  subst w'
  generalize hp : (cl a).natAbs * (cl b).natAbs = p at *
  have hpl : p ≤ 1329227995784915872903807060280344576 := by
    rw [← hp]; exact Nat.mul_le_mul hx hy
  clear hp
  have d1 : p / 18446744073709551616 ≤ 72057594037927936 := by omega
  have d2 : p % 18446744073709551616 ≤ 18446744073709551615 := by omega
  have HU : Box (p / 18446744073709551616 * 18446744073709551616 + p % 18446744073709551616 = p) := ⟨by have := Nat.div_add_mod p 18446744073709551616; rw [Nat.mul_comm] at this; exact this⟩
  have HG := hidq (div_great p _ hz0)
  have HS := hidq (div_small p (cl c).natAbs)
  generalize p / 18446744073709551616 = hi at *
  generalize p % 18446744073709551616 = lo at *
  by_cases hg : (cl c).natAbs ≤ hi
  · have hq := HG.out hg
    have g : (((cl c).natAbs : Nat) : Int) ≤ (hi : Int) := by omega
    have HL : Box (R = 1152921504606846976) := by
      refine ⟨?_⟩
      have hf := HF.out
      rw [HR.out]
      rw [hf]
      generalize p / (cl c).natAbs = q at *
      unfold cl; rw [if_neg (by omega), if_pos (by omega)]
    clear hq hg
    go_wp2_with (first | (go_at_call 217; refine (size_any _ _ (by omega) (by omega)).mono ?_; rintro e w' ⟨rfl, hw'⟩; subst w') | (go_at_call 227; refine (limit_f _).mono ?_; rintro e w' ⟨rfl, hw'⟩; subst w'))
    go_ret2
    exact ⟨ret_ib (by rw [HL.out]), 0, rfl⟩
  · have hq := HS.out (by omega)
    have g : (hi : Int) < (((cl c).natAbs : Nat) : Int) := by omega
    go_wp2_with (go_at_call 217; refine (size_any _ _ (by omega) (by omega)).mono ?_; rintro e w' ⟨rfl, hw'⟩; subst w')
    refine (div64_any hi lo _ _ (by omega) hz1 (by omega)).mono ?_
    rintro e w' ⟨rfl, n, rfl⟩
    rw [HU.out]
    clear HU
    have HF2 : Box (R = cl ((p / (cl c).natAbs : Nat) : Int)) := by
      refine ⟨?_⟩
      have hf := HF.out
      rw [HR.out]
      rw [hf]
    generalize p / (cl c).natAbs = q at *
    generalize p % (cl c).natAbs = r at *
    have B1 : (0 : Int) ≤ (q : Int) ∧ (q : Int) ≤ 18446744073709551615 := by omega
    clear hq d1 d2 hpl g hg HF HG HS
    have HC := hidq (cl_min (q : Int) (by omega))
    go_wp2_with (go_at_call 187; refine (clamp_any _ _).mono ?_; rintro e w' ⟨rfl, hw'⟩; subst w')
    go_ret2
    exact ⟨ret_ib (by rw [HF2.out, HC.out.1]), _, rfl⟩)
theorem muldiv_some (a b c : Int) (w : World) (hc : (c == 0) = false) :
    Calls Tryz.prog 226 #[.int .i64 a, .int .i64 b, .int .i64 c] w fun e w' => e = .returned (.tuple #[.int .i64 (cl ((cl a * cl b).fdiv (cl c))), .bool true]) ∧ ∃ n, w' = w.drewN n := by
  by_cases s1 : cl a < 0 <;> by_cases s2 : cl b < 0 <;> by_cases s3 : cl c < 0 <;> first | exact muldiv_minus a b c _ w hc (by omega) ⟨rfl⟩ | exact muldiv_plus a b c _ w hc (by omega) ⟨rfl⟩
theorem muldiv_any (a b c : Int) (w : World) :
    Calls Tryz.prog 226 #[.int .i64 a, .int .i64 b, .int .i64 c] w fun e w' => e = .returned (.tuple #[.int .i64 (mdv a b c), .bool (nz c)]) ∧ ∃ n, w' = w.drewN n := by
  by_cases h : c = 0
  · have e1 : mdv a b c = 0 := by simp [mdv, h]
    rw [e1, nz_f c h]
    exact muldiv_zero a b c w (by simpa using h)
  · have e1 : mdv a b c = cl ((cl a * cl b).fdiv (cl c)) := by simp [mdv, h]
    rw [e1, nz_t c h]
    exact muldiv_some a b c w (by simpa using h)
end Go.Proofs.YtcjcdpfjnomehaaGreat
