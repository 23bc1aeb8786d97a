/-
  What the program's Check, First, Last and Cut answer for every text, and At for every right text.
-/
import Derived.Test.YtflhefgmgdgffabUg
namespace Go.Proofs.Ytflhefgmgdgffab
open Go.RowKit
set_option linter.unusedSimpArgs false
set_option linter.unusedVariables false

set_option maxRecDepth 100000 in
theorem check_any (s : ByteArray) (w : World) (hs : s.size ≤ maxLen) (N : Nat) (hN : Cnt s N) :
    Calls Try.prog 29 #[.string s] w fun e w' => e = .returned (.int .i64 (chk s N)) ∧ w' = w := by
  have hb := bad_any s w hs N hN
  clear hN
  unfold chk
  have hc := badAt_cases s N
  generalize badAt s N = B at *
  rcases hc with hc | hc
  all_goals
    go_enter Try.func29, Try.ntmps29
    go_wp2_with (go_at_call 34; refine hb.mono ?_; rintro e w' ⟨rfl, hw'⟩; subst w')
    go_ret
    exact ⟨ret_int (by first | rfl | rw [if_pos (by omega)] | rw [if_neg (by omega)]), rfl⟩

/-- Where a rune begins, by its number. -/
def atv (s : ByteArray) (N : Nat) (n : Int) : Int × Bool := if 0 ≤ n ∧ n ≤ (N : Int) then ((it s n.toNat : Int), true) else (0, false)

/-- From a place down to the first byte that isn't from 128 to 191, or the beginning. -/
def dn (s : ByteArray) : Nat → Nat
  | 0 => 0
  | k + 1 => if ins (bt s (k + 1) : Int) = true then dn s k else k + 1
theorem dn_le (s : ByteArray) : ∀ k, dn s k ≤ k
  | 0 => Nat.le_refl _
  | k + 1 => by have := dn_le s k; simp only [dn]; split <;> omega
/-- What Cut answers. -/
def cutv (s : ByteArray) (m : Int) : Nat := if (s.size : Int) ≤ m then s.size else dn s m.toNat
theorem cutv_le (s : ByteArray) (m : Int) : cutv s m ≤ s.size := by
  unfold cutv; split
  · omega
  · have := dn_le s m.toNat; omega


/-- Where the last rune begins. -/
def lastAt (s : ByteArray) : Nat := dn s (s.size - 1)


end Go.Proofs.Ytflhefgmgdgffab
