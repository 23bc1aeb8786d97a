/-
  What the program's Check, First, Last and Cut answer for every text, and At for every right text.
-/
import Derived.Test.YtflhefgmgdgffaaDoorUg
namespace Go.Proofs.YtflhefgmgdgffaaDoor
open Go.RowKit
set_option linter.unusedSimpArgs false
set_option linter.unusedVariables false

set_option maxRecDepth 100000 in
theorem check_any (s : ByteArray) (w : World) (hs : s.size ≤ maxLen) (N : Nat) (hN : Cnt s N) :
    Calls Tryd.prog 34 #[.string s] w fun e w' => e = .returned (.int .i64 (chk s N)) ∧ w' = w := by
  have hb := bad_any s w hs N hN
  clear hN
  unfold chk
  have hc := badAt_cases s N
  generalize badAt s N = B at *
  rcases hc with hc | hc
  all_goals
    go_enter Tryd.func34, Tryd.ntmps34
    go_wp2_with (go_at_call 50; refine hb.mono ?_; rintro e w' ⟨rfl, hw'⟩; subst w')
    go_ret
    exact ⟨ret_int (by first | rfl | rw [if_pos (by omega)] | rw [if_neg (by omega)]), rfl⟩

/-- Where a rune begins, by its number. -/
def atv (s : ByteArray) (N : Nat) (n : Int) : Int × Bool := if 0 ≤ n ∧ n ≤ (N : Int) then ((it s n.toNat : Int), true) else (0, false)

set_option maxRecDepth 100000 in
set_option maxHeartbeats 800000 in
theorem at_any (s : ByteArray) (n : Int) (w : World) (hs : s.size ≤ maxLen) (N : Nat) (hN : Right s N) :
    Calls Tryd.prog 36 #[.string s, .int .i64 n] w fun e w' => e = .returned (.tuple #[.int .i64 (atv s N n).1, .bool (atv s N n).2]) ∧ ∃ p, w' = w.iter s p := by
  have HN := boxed hN
  have hlN : N ≤ s.size := by have := cnt_le s N hN.1; have := it_le s N; omega
  clear hN
  unfold maxLen at hs
  go_enter Tryd.func36, Tryd.ntmps36
  go_wp2
  go_loopw [6] (fun c w' => ∃ k : Nat, k ≤ N ∧ w' = w.iter s (it s k) ∧ c = .int .i64 (k : Int) ∧ ¬ (0 ≤ n ∧ n < (k : Int))) (fun c _ => N - (intOf c).toNat)
  case atStart => exact ⟨0, Nat.zero_le _, rfl, rfl, by omega⟩
  case round =>
    obtain ⟨k, hk, rfl, rfl, hnn⟩ := hrel
    by_cases hlt : k < N
    · have hnx := next_run s N k w HN.out.1 hlt
      by_cases c : (k : Int) = n
      · have hc : ((k : Int) == n) = true := by simp [c]
        have hv : Box (atv s N n = ((it s k : Int), true)) := boxed (by unfold atv; rw [if_pos (by omega)]; subst c; simp)
        clear c
        go_wp2
        go_ret2
        exact ⟨by rw [hv.out]; rfl, _, rfl⟩
      · have hc : ((k : Int) == n) = false := by simpa using c
        clear c
        go_wp2
        go_roundw
        case rel => exact ⟨k + 1, by omega, rfl, by go_num, by simp at hc; omega⟩
        case measure => simp [intOf]; omega
    · have hkN : k = N := by omega
      subst hkN
      have hnx := next_end s k w HN.out
      by_cases c : (k : Int) = n
      · have hc : ((k : Int) == n) = true := by simp [c]
        have hv : Box (atv s k n = ((s.size : Int), true)) := boxed (by unfold atv; rw [if_pos (by omega)]; subst c; rw [← HN.out.2]; simp)
        clear c
        go_wp2
        go_ret2
        exact ⟨by rw [hv.out]; rfl, _, rfl⟩
      · have hc : ((k : Int) == n) = false := by simpa using c
        have hv : Box (atv s k n = (0, false)) := boxed (by unfold atv; rw [if_neg (by omega)])
        clear c
        go_wp2
        go_ret2
        exact ⟨by rw [hv.out]; rfl, _, rfl⟩
/-- From a place down to the first byte that isn't from 128 to 191, or the beginning. -/
def dn (s : ByteArray) : Nat → Nat
  | 0 => 0
  | k + 1 => if ins (bt s (k + 1) : Int) = true then dn s k else k + 1
theorem dn_le (s : ByteArray) : ∀ k, dn s k ≤ k
  | 0 => Nat.le_refl _
  | k + 1 => by have := dn_le s k; simp only [dn]; split <;> omega
/-- What Cut answers. -/
def cutv (s : ByteArray) (m : Int) : Nat := if (s.size : Int) ≤ m then s.size else dn s m.toNat
theorem cutv_le (s : ByteArray) (m : Int) : cutv s m ≤ s.size := by
  unfold cutv; split
  · omega
  · have := dn_le s m.toNat; omega


/-- Where the last rune begins. -/
def lastAt (s : ByteArray) : Nat := dn s (s.size - 1)


end Go.Proofs.YtflhefgmgdgffaaDoor
