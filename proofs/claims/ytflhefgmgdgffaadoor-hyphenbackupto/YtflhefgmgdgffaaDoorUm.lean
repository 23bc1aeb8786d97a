/-
  Plain facts of right texts: which bytes lie within a rune, where a cut between runes falls, where the last rune begins. No program in it.
-/
import Derived.Test.YtflhefgmgdgffaaDoorUl
namespace Go.Proofs.YtflhefgmgdgffaaDoor
open Go.RowKit
set_option linter.unusedSimpArgs false
set_option linter.unusedVariables false

theorem right_of (s : ByteArray) (N : Nat) (h : Cnt s N) (hb : badAt s N < 0) : Right s N := by
  refine ⟨h, ?_⟩
  have hl := it_le s N
  by_cases c : it s N < s.size
  · unfold badAt at hb; rw [if_pos c] at hb; omega
  · omega
theorem right_bad (s : ByteArray) (N : Nat) (h : Right s N) : badAt s N = -1 := by
  unfold badAt; rw [if_neg (by rw [h.2]; omega)]

/-- Every place of a right text but its end lies in one of its runes. -/
theorem find_run (s : ByteArray) (N : Nat) (h : ∀ j, j < N → 0 < (dc s (it s j)).2) : ∀ k, k < it s N → ∃ j, j < N ∧ it s j ≤ k ∧ k < it s (j + 1) := by
  induction N with
  | zero => intro k hk; simp [it] at hk
  | succ N ih =>
    intro k hk
    by_cases c : k < it s N
    · obtain ⟨j, h1, h2⟩ := ih (fun j hj => h j (by omega)) k c
      exact ⟨j, by omega, h2⟩
    · exact ⟨N, by omega, by omega, hk⟩
/-- Within a rune the bytes are from 128 to 191, but the first. -/
theorem ins_run (s : ByteArray) (j k : Nat) (h1 : it s j ≤ k) (h2 : k < it s (j + 1)) : ins (bt s k : Int) = true ↔ it s j < k := by
  have hi := dc_inside s (it s j) (k - it s j) (by simp only [it] at h2; omega)
  rw [show it s j + (k - it s j) = k by omega] at hi
  rw [ins_nat, hi]
  omega
theorem it_mono (s : ByteArray) (N : Nat) (h : ∀ j, j < N → 0 < (dc s (it s j)).2) (i j : Nat) (hij : i < j) (hj : j ≤ N) : it s i < it s j := by
  have := it_grow s N h j hj i (by omega)
  omega
/-- A place is where a rune begins just if its byte is not from 128 to 191. -/
theorem ins_begin (s : ByteArray) (N : Nat) (h : Right s N) (k : Nat) (hk : k < s.size) : ins (bt s k : Int) = false ↔ ∃ j, j < N ∧ it s j = k := by
  obtain ⟨j, h1, h2, h3⟩ := find_run s N h.1.1 k (by rw [h.2]; exact hk)
  have hi := ins_run s j k h2 h3
  constructor
  · intro c
    refine ⟨j, h1, ?_⟩
    rw [c] at hi
    have : ¬ it s j < k := fun x => by have := hi.2 x; cases this
    omega
  · rintro ⟨i, hi1, hi2⟩
    have hij : i = j := by
      rcases Nat.lt_trichotomy i j with c | c | c
      · have := it_mono s N h.1.1 i j c (by omega); omega
      · exact c
      · have hm : it s (j + 1) ≤ it s i := by
          by_cases e : j + 1 = i
          · rw [e]; exact Nat.le_refl _
          · exact Nat.le_of_lt (it_mono s N h.1.1 (j + 1) i (by omega) (by omega))
        omega
    subst hij
    cases c : ins (bt s k : Int) with
    | false => rfl
    | true => have := hi.1 c; omega
end Go.Proofs.YtflhefgmgdgffaaDoor
