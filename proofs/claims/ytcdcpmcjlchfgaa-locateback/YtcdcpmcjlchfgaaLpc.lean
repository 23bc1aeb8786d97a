/-
  What the program's length, Size and LineAt answer.
-/
import Derived.Test.YtcdcpmcjlchfgaaLpb
namespace Go.Proofs.Ytcdcpmcjlchfgaa
open Go.RowKit
set_option linter.unusedSimpArgs false
set_option linter.unusedVariables false

set_option maxRecDepth 100000 in
set_option maxHeartbeats 4000000 in
theorem length_any (S : Nat → Prop) (ao : Option Addr) (n cap : Nat) (F : Nat → Lne) (w : World) (h : LnsAt S w ao n F) (hn : n ≤ maxLen) (hz : lsz F n ≤ 1125899906842624) :
    Calls Try.prog 28 #[.slice ao n cap] w fun e w' => e = .returned (.int .i64 (lsz F n : Nat)) ∧ Below w.heap.size w w' := by
  unfold maxLen at hn
  have H := boxed h
  have HZ := boxed (fun i (hi : i ≤ n) => Nat.le_trans (lsz_mono F i n hi) hz)
  clear h hz
  go_enter Try.func28, Try.ntmps28
  go_wp2_with fail
  go_loopw [3, 8] (fun sv iv wr => ∃ i : Nat, i ≤ n ∧ sv = .int .i64 (lsz F i : Nat) ∧ iv = .int .i64 (i : Nat) ∧ Box (Below w.heap.size w wr)) (fun _ iv _ => n - (intOf iv).toNat)
  case atStart => exact ⟨0, Nat.zero_le _, rfl, rfl, boxed (Below.refl _ _)⟩
  case round =>
    obtain ⟨i, hi, rfl, rfl, HB⟩ := hrel
    by_cases hlt : i < n
    · obtain ⟨b, off, rfl, hbw⟩ := (H.out.below HB.out).form (by omega)
      obtain ⟨-, c0, c1, c2, c3, c4, c5, c6, c7, c8⟩ := (H.out.below HB.out).get i hlt
      have t0 : decide ((i : Int) < (n : Int)) = true := decide_eq_true (by omega)
      have hlt2 : (i : Int) < (n : Int) := by omega
      have hz1 := HZ.out i (by omega)
      have hz2 := HZ.out (i + 1) (by omega)
      have HE : Box (lsz F (i + 1) = lsz F i + (F i).tx.size) := boxed rfl
      rw [HE.out] at hz2
      generalize F i = x at *
      obtain ⟨tx, ra, rn, rc, nu, de, h, hy, y, bg, en, L, Y⟩ := x
      simp only at *
      generalize lsz F i = z at *
      obtain ⟨sz, hsz⟩ : ∃ sz, tx.size = sz := ⟨_, rfl⟩
      have HB2 : Box (∀ W, Below wr.heap.size wr W → Below w.heap.size w W) := boxed (fun W hb => below_step HB.out (Nat.le_refl _) hb)
      rw [hsz] at HE hz2
      go_wp2_with fail
      go_roundw
      case rel => exact ⟨i + 1, by omega, by rw [HE.out]; (first | rfl | go_num), by go_num, boxed (HB2.out _ ((Below.refl _ _).alloc (Nat.le_refl _) _))⟩
      case measure => simp [intOf] <;> omega
    · obtain rfl : i = n := by omega
      have t0 : decide ((i : Int) < (i : Int)) = false := decide_eq_false (by omega)
      go_wp2_with fail
      go_ret
      exact ⟨rfl, HB.out⟩
set_option maxRecDepth 100000 in
set_option maxHeartbeats 4000000 in
theorem size_any (S : Nat → Prop) (ao : Option Addr) (n cap : Nat) (P : Nat → Pgv) (w : World) (h : PgsR S w ao n P) (hn : n ≤ maxLen) (hz : psz P n ≤ 1125899906842624) :
    Calls Try.prog 13 #[.slice ao n cap] w fun e w' => e = .returned (.int .i64 (psz P n : Nat)) ∧ Below w.heap.size w w' := by
  unfold maxLen at hn
  have H := boxed h
  have HZ := boxed (fun i (hi : i ≤ n) => Nat.le_trans (psz_mono P i n hi) hz)
  clear h hz
  go_enter Try.func13, Try.ntmps13
  go_wp2_with fail
  go_loopw [3, 8] (fun sv iv wr => ∃ i : Nat, i ≤ n ∧ sv = .int .i64 (psz P i : Nat) ∧ iv = .int .i64 (i : Nat) ∧ Box (Below w.heap.size w wr)) (fun _ iv _ => n - (intOf iv).toNat)
  case atStart => exact ⟨0, Nat.zero_le _, rfl, rfl, boxed (Below.refl _ _)⟩
  case round =>
    obtain ⟨i, hi, rfl, rfl, HB⟩ := hrel
    by_cases hlt : i < n
    · obtain ⟨hok, hls, b, off, rfl, -, c0⟩ := (H.out.below HB.out) i hlt
      have t0 : decide ((i : Int) < (n : Int)) = true := decide_eq_true (by omega)
      have hlt2 : (i : Int) < (n : Int) := by omega
      have hz1 := HZ.out i (by omega)
      have hz2 := HZ.out (i + 1) (by omega)
      have HE : Box (psz P (i + 1) = psz P i + lsz (P i).F (P i).ln) := boxed rfl
      rw [HE.out] at hz2
      have hc := boxed (fun W (hb : Below wr.heap.size wr W) => length_any S (P i).la (P i).ln (P i).lc (P i).F W (hls.below hb) hok.ln (by omega))
      clear hls hok
      generalize P i = x at *
      obtain ⟨la, ln, lc, F⟩ := x
      simp only at *
      generalize psz P i = z at *
      generalize lsz F ln = y at *
      have HB2 : Box (∀ W, Below wr.heap.size wr W → Below w.heap.size w W) := boxed (fun W hb => below_step HB.out (Nat.le_refl _) hb)
      go_wp2_with fail
      refine (hc.out _ ((Below.refl _ _).alloc (Nat.le_refl _) _)).mono ?_
      rintro e w2 ⟨rfl, hb2⟩
      have HB3 : Box (Below w.heap.size w w2) := boxed (HB2.out _ (below_step ((Below.refl _ _).alloc (Nat.le_refl _) _) (Nat.le_refl _) hb2))
      clear hb2 hc
      go_wp2_with fail
      go_roundw
      case rel => exact ⟨i + 1, by omega, by rw [HE.out]; (first | rfl | go_num), by go_num, HB3⟩
      case measure => simp [intOf] <;> omega
    · obtain rfl : i = n := by omega
      have t0 : decide ((i : Int) < (i : Int)) = false := decide_eq_false (by omega)
      go_wp2_with fail
      go_ret
      exact ⟨rfl, HB.out⟩
/-- The last line of a page at a height. -/
def la (F : Nat → Lne) (y : Int) : Nat → Nat
  | 0 => 0
  | n + 1 => if (F n).y ≤ y then n else la F y n
theorem la_one (F : Nat → Lne) (y : Int) : la F y 1 = 0 := by simp [la]
theorem la_le (F : Nat → Lne) (y : Int) (n : Nat) : la F y n ≤ n := by
  induction n with
  | zero => exact Nat.le_refl _
  | succ n ih => simp only [la]; split <;> omega
set_option maxRecDepth 100000 in
set_option maxHeartbeats 4000000 in
theorem lineat_any (S : Nat → Prop) (v : Pgv) (y : Int) (w : World) (h : LnsAt S w v.la v.ln v.F) (hn : v.ln ≤ maxLen) :
    Calls Try.prog 26 #[.agg #[.slice v.la v.ln v.lc], .int .i64 y] w fun e w' => e = .returned (.tuple #[.int .i64 (la v.F y v.ln : Nat), .bool (decide (0 < v.ln))]) ∧ Below w.heap.size w w' := by
  unfold maxLen at hn
  obtain ⟨ao, n, cap, F⟩ := v
  simp only at *
  have H := boxed h
  have hB0 : Below w.heap.size w (w.alloc (.cells #[.slice ao n cap] 62)) := (Below.refl _ _).alloc (Nat.le_refl _) _
  have hc0 : (w.alloc (.cells #[.slice ao n cap] 62)).cell? ⟨w.heap.size, 0, none⟩ = some (.slice ao n cap) := cell_first _ _ _ 0
  obtain ⟨w0, hw0⟩ : ∃ w0, w.alloc (.cells #[.slice ao n cap] 62) = w0 := ⟨_, rfl⟩
  rw [hw0] at hB0 hc0
  have HW0 := boxed hw0
  have HB := boxed hB0
  clear h hw0 hB0
  go_enter Try.func26, Try.ntmps26
  go_upto_region 1 with (fail)
  rw [HW0.out]
  go_wp2_with fail
  go_loopw [6] (fun kv wr => ∃ k : Int, (-1 ≤ k ∧ k < (n : Int)) ∧ kv = .int .i64 k ∧ Box (la F y n = la F y (k + 1).toNat) ∧ wr = w0) (fun kv _ => (intOf kv + 1).toNat)
  case atStart => exact ⟨(n : Int) - 1, by omega, by (first | rfl | go_num), boxed (by congr 1; omega), rfl⟩
  case round =>
    obtain ⟨k, ⟨hk1, hk2⟩, rfl, HL, rfl⟩ := hrel
    by_cases hp : 0 < k
    · obtain ⟨b, off, rfl, hbw⟩ := (H.out.below HB.out).form (by omega)
      obtain ⟨m, rfl⟩ : ∃ m : Nat, k = (m : Int) := ⟨k.toNat, by omega⟩
      obtain ⟨-, -, -, -, -, -, -, c6, -⟩ := (H.out.below HB.out).get m (by omega)
      have t0 : decide (0 < (m : Int)) = true := decide_eq_true hp
      have HL2 : Box (la F y n = if (F m).y ≤ y then m else la F y m) := boxed (by rw [HL.out]; rfl)
      by_cases cy : (F m).y ≤ y
      · have HL3 : Box (la F y n = m) := boxed (by rw [HL2.out, if_pos cy])
        have ty : decide ((F m).y ≤ y) = true := decide_eq_true cy
        have tn : decide (0 < n) = true := decide_eq_true (by omega)
        clear cy HL HL2
        generalize (F m).y = q at *
        go_wp2_with fail
        go_ret2
        exact ⟨by rw [HL3.out, tn]; rfl, HB.out⟩
      · have HL3 : Box (la F y n = la F y m) := boxed (by rw [HL2.out, if_neg cy])
        have ty : decide ((F m).y ≤ y) = false := decide_eq_false cy
        clear cy HL HL2
        generalize (F m).y = q at *
        go_wp2_with fail
        go_roundw
        case rel => exact ⟨(m : Int) - 1, by omega, rfl, boxed (by rw [HL3.out]; congr 1; omega), (by first | rfl | trivial)⟩
        case measure => simp [intOf] <;> omega
    · have t0 : decide (0 < k) = false := decide_eq_false hp
      have HL2 : Box (la F y n = 0) := boxed (by
        rw [HL.out]
        by_cases c : k = 0
        · subst c; exact la_one _ _
        · have : (k + 1).toNat = 0 := by omega
          rw [this]; rfl)
      have tn : decide (0 < (n : Int)) = decide (0 < n) := by simp
      have HT := boxed tn
      clear tn HL
      go_wp2_with fail
      go_quiet (fail)
      go_wp2_with fail
      go_ret2
      exact ⟨by rw [HL2.out]; (first | rfl | simp), HB.out.trans (bel_drewN _ _ _)⟩
end Go.Proofs.Ytcdcpmcjlchfgaa
