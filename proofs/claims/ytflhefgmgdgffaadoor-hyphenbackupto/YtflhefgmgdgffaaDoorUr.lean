/-
  Two texts one behind the other, as bytes; and the contracts of Count and Lines that say of the memory only that nothing old is changed.
-/
import Derived.Test.YtflhefgmgdgffaaDoorUq
import Derived.Lib.QuietBelow
namespace Go.Proofs.YtflhefgmgdgffaaDoor
open Go.RowKit
set_option linter.unusedSimpArgs false
set_option linter.unusedVariables false

theorem app_size (s t : ByteArray) : (s ++ t).size = s.size + t.size := ByteArray.size_append
theorem app_left (s t : ByteArray) (i : Nat) (h : i < s.size) : bt (s ++ t) i = bt s i := by
  rw [bt_in _ _ (by rw [app_size]; omega), bt_in _ _ h, ByteArray.getElem_append_left h]
theorem app_right (s t : ByteArray) (i : Nat) (h : i < t.size) : bt (s ++ t) (s.size + i) = bt t i := by
  rw [bt_in _ _ (by rw [app_size]; omega), bt_in _ _ h, ByteArray.getElem_append_right (by omega)]
  congr 2
  omega
theorem app_join (s t : ByteArray) (N M : Nat) (hs : Right s N) (ht : Right t M) : Right (s ++ t) (N + M) ∧ lns (s ++ t) (N + M) = lns s N + lns t M :=
  join_right s t (s ++ t) N M hs ht (app_size s t) (app_left s t) (app_right s t)

theorem bad_b (s : ByteArray) (w : World) (hs : s.size ≤ maxLen) (N : Nat) (hN : Right s N) :
    Calls Tryd.prog 50 #[.string s] w fun e w' => e = .returned (.int .i64 (-1)) ∧ Below w.heap.size w w' := by
  have h := bad_any s w hs N hN.1
  rw [right_bad s N hN] at h
  exact h.mono fun e w' ⟨he, hp⟩ => ⟨he, by rw [hp]; exact Below.refl _ _⟩
end Go.Proofs.YtflhefgmgdgffaaDoor
