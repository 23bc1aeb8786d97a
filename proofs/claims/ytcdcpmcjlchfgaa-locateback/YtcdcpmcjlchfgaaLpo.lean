/-
  What the program's Spot answers, by the library's BinarySearchFunc.
-/
import Derived.Test.YtcdcpmcjlchfgaaLpd
import Derived.Test.YtcdcpmcjlchfgaaLpg
import Derived.Test.YtcdcpmcjlchfgaaLpn
namespace Go.Proofs.Ytcdcpmcjlchfgaa
open Go.RowKit
set_option linter.unusedSimpArgs false
set_option linter.unusedVariables false

def cpv (a b : Int) : Int := if a < b then -1 else if b < a then 1 else 0
theorem isnan_any (a : Int) (w : World) : Calls Try.prog 65 #[.int .i64 a] w fun e w' => e = .returned (.bool false) ∧ w' = w := by
  go_enter Try.func65, Try.ntmps65
  go_wp2_with fail
  go_ret
  exact ⟨by first | rfl | simp, rfl⟩
set_option maxRecDepth 100000 in
set_option maxHeartbeats 1000000 in
theorem compare15_any (a b : Int) (w : World) : Calls Try.prog 49 #[.int .i64 a, .int .i64 b] w fun e w' => e = .returned (.int .i64 (cpv a b)) ∧ w' = w := by
  unfold cpv
  by_cases h1 : a < b
  · rw [if_pos h1]
    have t1 : decide (a < b) = true := decide_eq_true h1
    clear h1
    go_enter Try.func49, Try.ntmps49
    go_wp2_with (go_at_call 65; refine (isnan_any _ _).mono ?_; rintro e w' ⟨rfl, hw'⟩; subst w')
    go_ret
    exact ⟨rfl, rfl⟩
  · rw [if_neg h1]
    have t1 : decide (a < b) = false := decide_eq_false h1
    by_cases h2 : b < a
    · rw [if_pos h2]
      have t2 : decide (b < a) = true := decide_eq_true h2
      clear h1 h2
      go_enter Try.func49, Try.ntmps49
      go_wp2_with (go_at_call 65; refine (isnan_any _ _).mono ?_; rintro e w' ⟨rfl, hw'⟩; subst w')
      go_ret
      exact ⟨rfl, rfl⟩
    · rw [if_neg h2]
      have t2 : decide (b < a) = false := decide_eq_false h2
      clear h1 h2
      go_enter Try.func49, Try.ntmps49
      go_wp2_with (go_at_call 65; refine (isnan_any _ _).mono ?_; rintro e w' ⟨rfl, hw'⟩; subst w')
      go_ret
      exact ⟨rfl, rfl⟩
set_option maxRecDepth 100000 in
set_option maxHeartbeats 1000000 in
theorem spotcmp_any (a x b : Int) (w : World) : Calls Try.prog 48 #[.agg #[.int .i64 a, .int .i64 x], .int .i64 b] w fun e w' => e = .returned (.int .i64 (cpv a b)) ∧ Below w.heap.size w w' := by
  have hc := fun w => compare15_any a b w
  generalize cpv a b = V at *
  go_enter Try.func48, Try.ntmps48
  go_wp2_with fail
  refine (hc _).mono ?_
  rintro e w1 ⟨rfl, hw1⟩
  have HB : Box (Below w.heap.size w w1) := boxed (by subst hw1; exact (Below.refl _ _).alloc (Nat.le_refl _) _)
  clear hw1
  go_wp2_with fail
  go_ret
  exact ⟨rfl, HB.out⟩
/-- What a binary search finds. -/
def BsP (M q : Nat) (f : Bool) (A : Nat → Int) (T : Int) : Prop := (q ≤ M ∧ (∀ j, j < q → A j < T) ∧ ∀ j, q ≤ j → j < M → T ≤ A j) ∧ (f = true ↔ q < M ∧ A q = T)
set_option maxRecDepth 100000 in
set_option maxHeartbeats 4000000 in
theorem bsf_any (S : Nat → Prop) (g o M c : Nat) (A Y : Nat → Int) (T : Int) (w : World) (h : P2At S w (some ⟨g, o, none⟩) M A Y) (hM : M ≤ 1000) (hA : ∀ i j, i < j → j < M → A i < A j) :
    Calls Try.prog 47 #[.slice (some ⟨g, o, none⟩) M c, .int .i64 T, .func (.func 48) #[] #[]] w fun e w' => (∃ (q : Nat) (f : Bool), e = .returned (.tuple #[.int .i64 (q : Nat), .bool f]) ∧ BsP M q f A T) ∧ Below w.heap.size w w' := by
  have H := boxed h
  have HA := boxed hA
  clear h hA
  go_enter Try.func47, Try.ntmps47
  go_wp2_with fail
  go_loopw [9, 10] (fun a b wr => ∃ i j : Nat, i ≤ j ∧ j ≤ M ∧ a = .int .i64 (i : Nat) ∧ b = .int .i64 (j : Nat) ∧ Box ((∀ q, q < i → A q < T) ∧ ∀ q, j ≤ q → q < M → T ≤ A q) ∧ Box (Below w.heap.size w wr)) (fun a b _ => (intOf b - intOf a).toNat)
  case atStart => exact ⟨0, M, by omega, by omega, rfl, rfl, boxed ⟨fun q hq => by omega, fun q h1 h2 => by omega⟩, boxed (Below.refl _ _)⟩
  case round =>
    obtain ⟨i, j, h1, h2, rfl, rfl, HP, HB⟩ := hrel
    by_cases hlt : i < j
    · obtain ⟨m, hm⟩ : ∃ m : Nat, (i + j) / 2 = m := ⟨_, rfl⟩
      have em : ((i : Int) + (j : Int)) / 2 = (m : Int) := by omega
      have m1 : i ≤ m := by omega
      have m2 : m < j := by omega
      have m3 : m < M := by omega
      have m4 : (m : Int) < (M : Int) := by omega
      clear hm
      obtain ⟨q0, q1⟩ := (H.out.below HB.out).get m m3
      have hc := fun W => spotcmp_any (A m) (Y m) T W
      have HCV : Box ((A m < T → cpv (A m) T = -1) ∧ (¬ A m < T → 0 ≤ cpv (A m) T)) := boxed (by unfold cpv; refine ⟨fun h => by rw [if_pos h], fun h => ?_⟩; rw [if_neg h]; split <;> omega)
      have HN1 : Box (A m < T → (∀ q, q < m + 1 → A q < T) ∧ ∀ q, j ≤ q → q < M → T ≤ A q) := boxed (fun h => ⟨fun q hq => by
        by_cases c : q = m
        · subst c; exact h
        · have := HA.out q m (by omega) m3; omega, HP.out.2⟩)
      have HN2 : Box (¬ A m < T → (∀ q, q < i → A q < T) ∧ ∀ q, m ≤ q → q < M → T ≤ A q) := boxed (fun h => ⟨HP.out.1, fun q hq1 hq2 => by
        by_cases c : q = m
        · subst c; omega
        · have := HA.out m q (by omega) hq2; omega⟩)
      generalize cpv (A m) T = V at *
      obtain ⟨am, ham⟩ : ∃ am, A m = am := ⟨_, rfl⟩
      obtain ⟨ym, hym⟩ : ∃ ym, Y m = ym := ⟨_, rfl⟩
      rw [ham] at HCV HN1 HN2 q0 hc
      rw [hym] at q1 hc
      clear ham hym
      go_wp2_with fail
      refine (hc _).mono ?_
      rintro e w1 ⟨rfl, hb1⟩
      have HB2 := boxed (below_step HB.out (Nat.le_refl _) hb1)
      clear hb1 hc q0 q1
      by_cases hf : am < T
      · have tf : decide (V < 0) = true := decide_eq_true (by rw [HCV.out.1 hf]; omega)
        have HN := boxed (HN1.out hf)
        clear hf HCV HN1 HN2
        go_wp2_with fail
        go_roundw
        case rel => exact ⟨m + 1, j, by omega, h2, by go_num, rfl, HN, HB2⟩
        case measure => simp [intOf]; omega
      · have tf : decide (V < 0) = false := decide_eq_false (by have := HCV.out.2 (by omega); omega)
        have HN := boxed (HN2.out (by omega))
        clear hf HCV HN1 HN2
        go_wp2_with fail
        go_roundw
        case rel => exact ⟨i, m, m1, by omega, rfl, rfl, HN, HB2⟩
        case measure => simp [intOf]; omega
    · have e : i = j := by omega
      subst e
      have hun : undef = Value.tuple #[] := rfl
      by_cases hiM : i < M
      · have t0 : decide ((i : Int) < (M : Int)) = true := decide_eq_true (by omega)
        have t0n : decide (i < M) = true := decide_eq_true hiM
        have m4 : (i : Int) < (M : Int) := by omega
        obtain ⟨q0, q1⟩ := (H.out.below HB.out).get i hiM
        have hc := fun W => spotcmp_any (A i) (Y i) T W
        have HCV : Box ((cpv (A i) T == 0) = true ↔ A i = T) := boxed (by
          unfold cpv
          have := HP.out.2 i (Nat.le_refl _) hiM
          rw [if_neg (by omega)]
          split
          · simp; omega
          · simp; omega)
        generalize cpv (A i) T = V at *
        obtain ⟨am, ham⟩ : ∃ am, A i = am := ⟨_, rfl⟩
        obtain ⟨ym, hym⟩ : ∃ ym, Y i = ym := ⟨_, rfl⟩
        have HAM := boxed ham
        rw [ham] at HCV q0 hc
        rw [hym] at q1 hc
        have HFin : Box (∀ f : Bool, (f = true ↔ am = T) → BsP M i f A T) := boxed (fun f hf => ⟨⟨h2, HP.out.1, HP.out.2⟩, by rw [hf, HAM.out]; exact ⟨fun h => ⟨hiM, h⟩, fun h => h.2⟩⟩)
        clear ham hym hiM
        go_wp2_with fail
        refine (hc _).mono ?_
        rintro e w1 ⟨rfl, hb1⟩
        have HB2 := boxed (below_step HB.out (Nat.le_refl _) hb1)
        clear hb1 hc q0 q1 t0 t0n
        cases hv : (V == 0) with
        | true =>
          have HF2 := boxed (HFin.out true ⟨fun _ => HCV.out.1 hv, fun _ => rfl⟩)
          clear HFin HCV
          go_wp2_with fail
          go_ret2
          exact ⟨⟨i, true, rfl, HF2.out⟩, HB2.out⟩
        | false =>
          have HF2 := boxed (HFin.out false ⟨fun h => (by cases h), fun h => (by have := HCV.out.2 h; rw [hv] at this; cases this)⟩)
          clear HFin HCV
          go_wp2_with fail
          go_ret2
          exact ⟨⟨i, false, rfl, HF2.out⟩, HB2.out⟩
      · have t0 : decide ((i : Int) < (M : Int)) = false := decide_eq_false (by omega)
        have t0n : decide (i < M) = false := decide_eq_false hiM
        have HFin : Box (BsP M i false A T) := boxed ⟨⟨h2, HP.out.1, HP.out.2⟩, ⟨fun h => (by cases h), fun h => absurd h.1 hiM⟩⟩
        clear hiM
        go_wp2_with fail
        go_ret2
        exact ⟨⟨i, false, rfl, HFin.out⟩, HB.out⟩
end Go.Proofs.Ytcdcpmcjlchfgaa
