/-
  What the program's Check of a text answers for every text.
-/
import Derived.Test.YtfikmlgmklnlaaaUe
namespace Go.Proofs.Ytfikmlgmklnlaaa
open Go.RowKit
set_option linter.unusedSimpArgs false
set_option linter.unusedVariables false

/-- A right text: it is runes to its end. -/
def Right (s : ByteArray) (N : Nat) : Prop := Cnt s N ∧ it s N = s.size

set_option maxRecDepth 100000 in
theorem check_any (s : ByteArray) (w : World) (hs : s.size ≤ maxLen) (N : Nat) (hN : Cnt s N) :
    Calls Try.prog 32 #[.string s] w fun e w' => e = .returned (.int .i64 (chk s N)) ∧ w' = w := by
  have hb := bad_any s w hs N hN
  clear hN
  unfold chk
  have hc := badAt_cases s N
  generalize badAt s N = B at *
  rcases hc with hc | hc
  all_goals
    go_enter Try.func32, Try.ntmps32
    go_wp2_with (go_at_call 49; refine hb.mono ?_; rintro e w' ⟨rfl, hw'⟩; subst w')
    go_ret
    exact ⟨ret_int (by first | rfl | rw [if_pos (by omega)] | rw [if_neg (by omega)]), rfl⟩

end Go.Proofs.Ytfikmlgmklnlaaa
