/-
  Plain facts of right texts: the greatest place between runes up to a place, where Cut finds it, and where the last rune begins. No program in it.
-/
import Derived.Test.YtifehmifgapodaaUn
import Derived.Test.YtifehmifgapodaaUh
namespace Go.Proofs.Ytifehmifgapodaa
open Go.RowKit
set_option linter.unusedSimpArgs false
set_option linter.unusedVariables false

theorem dn_run (s : ByteArray) (j : Nat) : ∀ d, it s j + d < it s (j + 1) → dn s (it s j + d) = it s j := by
  intro d
  induction d with
  | zero =>
    intro h
    cases hk : it s j with
    | zero => rfl
    | succ k =>
      have hi := ins_run s j (k + 1) (by omega) (by omega)
      simp only [Nat.add_zero, dn]
      rw [if_neg (by rw [hi]; omega)]
  | succ d ih =>
    intro h
    have hi := ins_run s j (it s j + d + 1) (by omega) (by omega)
    show dn s (it s j + d + 1) = _
    simp only [dn]
    rw [if_pos (by rw [hi]; omega)]
    exact ih (by omega)

/-- The greatest of the first places that is at most m; 0, if none is. -/
def bst (s : ByteArray) (m : Int) : Nat → Nat
  | 0 => 0
  | k + 1 => if (it s k : Int) ≤ m then it s k else bst s m k
theorem bst_le (s : ByteArray) (m : Int) : ∀ k, bst s m k ≤ s.size
  | 0 => Nat.zero_le _
  | k + 1 => by simp only [bst]; split; · exact it_le s k
                · exact bst_le s m k
theorem bst_neg (s : ByteArray) (m : Int) (h : m < 0) : ∀ k, bst s m k = 0
  | 0 => rfl
  | k + 1 => by simp only [bst]; rw [if_neg (by omega)]; exact bst_neg s m h k
theorem bst_run (s : ByteArray) (m : Int) (N : Nat) (h : ∀ j, j < N → 0 < (dc s (it s j)).2) (j : Nat) (h1 : (it s j : Int) ≤ m) (h2 : m < (it s (j + 1) : Int)) :
    ∀ k, k ≤ N → j < k → bst s m k = it s j := by
  intro k
  induction k with
  | zero => intro _ c; omega
  | succ k ih =>
    intro hk hj
    simp only [bst]
    by_cases c : j = k
    · subst c; rw [if_pos h1]
    · have hm : it s (j + 1) ≤ it s k := by
        by_cases e : j + 1 = k
        · rw [e]; exact Nat.le_refl _
        · exact Nat.le_of_lt (it_mono s N h (j + 1) k (by omega) (by omega))
      rw [if_neg (by omega)]
      exact ih (by omega) (by omega)

theorem bst_cut (s : ByteArray) (m : Int) (N : Nat) (h : Right s N) : cutv s m = if (s.size : Int) ≤ m then s.size else bst s m N := by
  unfold cutv
  by_cases c : (s.size : Int) ≤ m
  · rw [if_pos c, if_pos c]
  · rw [if_neg c, if_neg c]
    by_cases c0 : m < 0
    · rw [bst_neg s m c0, show m.toNat = 0 by omega]; rfl
    · obtain ⟨j, h1, h2, h3⟩ := find_run s N h.1.1 m.toNat (by rw [h.2]; omega)
      rw [bst_run s m N h.1.1 j (by omega) (by omega) N (Nat.le_refl _) h1]
      have := dn_run s j (m.toNat - it s j) (by omega)
      rw [show it s j + (m.toNat - it s j) = m.toNat by omega] at this
      exact this

/-- The last rune of a right text. -/
theorem last_run (s : ByteArray) (N : Nat) (h : Right s N) (hN : 0 < N) : lastAt s = it s (N - 1) ∧ (dc s (it s (N - 1))).2 = s.size - it s (N - 1) := by
  have hp := h.1.1 (N - 1) (by omega)
  have hs : it s (N - 1 + 1) = s.size := by rw [show N - 1 + 1 = N by omega]; exact h.2
  have hd : it s (N - 1 + 1) = it s (N - 1) + (dc s (it s (N - 1))).2 := rfl
  have := dn_run s (N - 1) (s.size - 1 - it s (N - 1)) (by omega)
  rw [show it s (N - 1) + (s.size - 1 - it s (N - 1)) = s.size - 1 by omega] at this
  exact ⟨this, by omega⟩
end Go.Proofs.Ytifehmifgapodaa
