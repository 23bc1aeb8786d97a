/-
  What the program's Check, First, Last and Cut answer for every text, and At for every right text.
-/
import Derived.Test.YtifehmifgapodaaUg
namespace Go.Proofs.Ytifehmifgapodaa
open Go.RowKit
set_option linter.unusedSimpArgs false
set_option linter.unusedVariables false

set_option maxRecDepth 100000 in
theorem check_any (s : ByteArray) (w : World) (hs : s.size ≤ maxLen) (N : Nat) (hN : Cnt s N) :
    Calls Try.prog 12 #[.string s] w fun e w' => e = .returned (.int .i64 (chk s N)) ∧ w' = w := by
  have hb := bad_any s w hs N hN
  clear hN
  unfold chk
  have hc := badAt_cases s N
  generalize badAt s N = B at *
  rcases hc with hc | hc
  all_goals
    go_enter Try.func12, Try.ntmps12
    go_wp2_with (go_at_call 11; refine hb.mono ?_; rintro e w' ⟨rfl, hw'⟩; subst w')
    go_ret
    exact ⟨ret_int (by first | rfl | rw [if_pos (by omega)] | rw [if_neg (by omega)]), rfl⟩

theorem first_any (s : ByteArray) (w : World) (hs : s.size ≤ maxLen) :
    Calls Try.prog 18 #[.string s] w fun e w' => e = .returned (.tuple #[.int .i32 ((dc s 0).1 : Int), .int .i64 ((dc s 0).2 : Int)]) ∧ w' = w := by
  have hb := read_any s w hs
  go_enter Try.func18, Try.ntmps18
  go_wp2_with (go_at_call 25; refine hb.mono ?_; rintro e w' ⟨rfl, hw'⟩; subst w')
  go_ret2
  exact ⟨rfl, rfl⟩
/-- Where a rune begins, by its number. -/
def atv (s : ByteArray) (N : Nat) (n : Int) : Int × Bool := if 0 ≤ n ∧ n ≤ (N : Int) then ((it s n.toNat : Int), true) else (0, false)

set_option maxRecDepth 100000 in
set_option maxHeartbeats 800000 in
theorem at_any (s : ByteArray) (n : Int) (w : World) (hs : s.size ≤ maxLen) (N : Nat) (hN : Right s N) :
    Calls Try.prog 23 #[.string s, .int .i64 n] w fun e w' => e = .returned (.tuple #[.int .i64 (atv s N n).1, .bool (atv s N n).2]) ∧ ∃ p, w' = w.iter s p := by
  have HN := boxed hN
  have hlN : N ≤ s.size := by have := cnt_le s N hN.1; have := it_le s N; omega
  clear hN
  unfold maxLen at hs
  go_enter Try.func23, Try.ntmps23
  go_wp2
  go_loopw [6] (fun c w' => ∃ k : Nat, k ≤ N ∧ w' = w.iter s (it s k) ∧ c = .int .i64 (k : Int) ∧ ¬ (0 ≤ n ∧ n < (k : Int))) (fun c _ => N - (intOf c).toNat)
  case atStart => exact ⟨0, Nat.zero_le _, rfl, rfl, by omega⟩
  case round =>
    obtain ⟨k, hk, rfl, rfl, hnn⟩ := hrel
    by_cases hlt : k < N
    · have hnx := next_run s N k w HN.out.1 hlt
      by_cases c : (k : Int) = n
      · have hc : ((k : Int) == n) = true := by simp [c]
        have hv : Box (atv s N n = ((it s k : Int), true)) := boxed (by unfold atv; rw [if_pos (by omega)]; subst c; simp)
        clear c
        go_wp2
        go_ret2
        exact ⟨by rw [hv.out]; rfl, _, rfl⟩
      · have hc : ((k : Int) == n) = false := by simpa using c
        clear c
        go_wp2
        go_roundw
        case rel => exact ⟨k + 1, by omega, rfl, by go_num, by simp at hc; omega⟩
        case measure => simp [intOf]; omega
    · have hkN : k = N := by omega
      subst hkN
      have hnx := next_end s k w HN.out
      by_cases c : (k : Int) = n
      · have hc : ((k : Int) == n) = true := by simp [c]
        have hv : Box (atv s k n = ((s.size : Int), true)) := boxed (by unfold atv; rw [if_pos (by omega)]; subst c; rw [← HN.out.2]; simp)
        clear c
        go_wp2
        go_ret2
        exact ⟨by rw [hv.out]; rfl, _, rfl⟩
      · have hc : ((k : Int) == n) = false := by simpa using c
        have hv : Box (atv s k n = (0, false)) := boxed (by unfold atv; rw [if_neg (by omega)])
        clear c
        go_wp2
        go_ret2
        exact ⟨by rw [hv.out]; rfl, _, rfl⟩
/-- From a place down to the first byte that isn't from 128 to 191, or the beginning. -/
def dn (s : ByteArray) : Nat → Nat
  | 0 => 0
  | k + 1 => if ins (bt s (k + 1) : Int) = true then dn s k else k + 1
theorem dn_le (s : ByteArray) : ∀ k, dn s k ≤ k
  | 0 => Nat.le_refl _
  | k + 1 => by have := dn_le s k; simp only [dn]; split <;> omega
/-- What Cut answers. -/
def cutv (s : ByteArray) (m : Int) : Nat := if (s.size : Int) ≤ m then s.size else dn s m.toNat
theorem cutv_le (s : ByteArray) (m : Int) : cutv s m ≤ s.size := by
  unfold cutv; split
  · omega
  · have := dn_le s m.toNat; omega

set_option maxRecDepth 100000 in
set_option maxHeartbeats 800000 in
theorem cut_any (s : ByteArray) (m : Int) (w : World) (hs : s.size ≤ maxLen) :
    Calls Try.prog 22 #[.string s, .int .i64 m] w fun e w' => e = .returned (.int .i64 (cutv s m : Int)) ∧ w' = w := by
  unfold maxLen at hs
  by_cases h1 : (s.size : Int) ≤ m
  · have hv : Box ((cutv s m : Int) = s.size) := boxed (by unfold cutv; rw [if_pos h1])
    go_enter Try.func22, Try.ntmps22
    go_wp2
    go_ret
    exact ⟨ret_int hv.out.symm, rfl⟩
  · have hv : Box (cutv s m = dn s m.toNat) := boxed (by unfold cutv; rw [if_neg h1])
    have hm : max m 0 = (m.toNat : Int) := by omega
    have hk : m.toNat = 0 ∨ m.toNat < s.size := by omega
    generalize m.toNat = M at *
    go_enter Try.func22, Try.ntmps22
    go_wp2
    all_goals
      go_loop [5] (fun i => ∃ k : Nat, (k = 0 ∨ k < s.size) ∧ i = .int .i64 (k : Int) ∧ dn s k = dn s M) (fun i => (intOf i).toNat)
      case atStart => exact ⟨M, hk, by congr 1; omega, rfl⟩
      case round =>
        obtain ⟨k, hk', rfl, hd⟩ := hrel
        have HD := boxed hd
        clear hd
        by_cases h0 : k = 0
        · subst h0
          clear hm
          go_wp2
          go_ret
          exact ⟨ret_int (by rw [hv.out, ← HD.out]; rfl), rfl⟩
        · have hlt : k < s.size := by omega
          have hb := bt_in s k hlt
          obtain ⟨j, rfl⟩ : ∃ j, k = j + 1 := ⟨k - 1, by omega⟩
          have d0 : decide ((0 : Int) < ((j + 1 : Nat) : Int)) = true := decide_eq_true (by omega)
          clear hm h0 hk' hk
          cases hi : ins (s[j + 1].toNat : Int) with
          | true =>
            have HV : Box (dn s j = dn s M) := boxed (by rw [← HD.out]; simp only [dn]; rw [if_pos (by rw [hb]; exact hi)])
            clear hb
            go_wp2_with (go_at_call 26; refine (inside_any _ _).mono ?_; rintro e w' ⟨rfl, hw'⟩; subst w')
            go_round
            case rel => exact ⟨j, Or.inr (by omega), by go_num, HV.out⟩
            case measure => simp [intOf]
          | false =>
            have HV : Box (j + 1 = dn s M) := boxed (by rw [← HD.out]; simp only [dn]; rw [if_neg (by rw [hb, hi]; simp)])
            clear hb
            go_wp2_with (go_at_call 26; refine (inside_any _ _).mono ?_; rintro e w' ⟨rfl, hw'⟩; subst w')
            go_ret
            exact ⟨ret_int (by rw [hv.out, ← HV.out]; simp), rfl⟩

/-- Where the last rune begins. -/
def lastAt (s : ByteArray) : Nat := dn s (s.size - 1)

set_option maxRecDepth 100000 in
set_option maxHeartbeats 800000 in
theorem last_any (s : ByteArray) (w : World) (hs : s.size ≤ maxLen) :
    Calls Try.prog 19 #[.string s] w fun e w' => e = .returned (.tuple #[.int .i32 ((dc s (lastAt s)).1 : Int), .int .i64 ((dc s (lastAt s)).2 : Int)]) ∧ w' = w := by
  have hc := cut_any s ((s.size : Int) - 1) w hs
  have hv : cutv s ((s.size : Int) - 1) = lastAt s := by unfold cutv lastAt; rw [if_neg (by omega)]; congr 1; omega
  have hle := cutv_le s ((s.size : Int) - 1)
  rw [hv] at hc hle
  have hr := read_at s (lastAt s) w hs
  unfold maxLen at hs
  clear hv
  generalize lastAt s = A at *
  generalize dc s A = D at *
  obtain ⟨r, n⟩ := D
  simp only at *
  go_enter Try.func19, Try.ntmps19
  go_wp2_with (first | (go_at_call 22; refine hc.mono ?_; rintro e w' ⟨rfl, hw'⟩; subst w') | (go_at_call 25; refine hr.mono ?_; rintro e w' ⟨rfl, hw'⟩; subst w'))
  go_ret2
  exact ⟨rfl, rfl⟩

end Go.Proofs.Ytifehmifgapodaa
