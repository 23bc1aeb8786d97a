/-
  The greatest of numbers, one by one.
-/
import Derived.Test.YtdchpiihjjjpfaaKe
namespace Go.Proofs.Ytdchpiihjjjpfaa
open Go.RowKit
set_option linter.unusedSimpArgs false
set_option linter.unusedVariables false

theorem getD_mem {s : List Int} {k : Nat} (h : k < s.length) : s.getD k 0 ∈ s := by
  have : s.getD k 0 = s[k] := by simp [List.getD, h]
  rw [this]; exact List.getElem_mem h
theorem mx_step {s : List Int} {k : Nat} {m : Int} (h : (∀ j, j < k → s.getD j 0 ≤ m) ∧ (m = -1 ∨ ∃ j, j < k ∧ s.getD j 0 = m)) :
    (∀ j, j < k + 1 → s.getD j 0 ≤ max m (s.getD k 0)) ∧ (max m (s.getD k 0) = -1 ∨ ∃ j, j < k + 1 ∧ s.getD j 0 = max m (s.getD k 0)) := by
  refine ⟨fun j hj => ?_, ?_⟩
  · by_cases c : j = k
    · subst c; omega
    · have := h.1 j (by omega); omega
  · by_cases c : m ≤ s.getD k 0
    · exact .inr ⟨k, by omega, by omega⟩
    · have e : max m (s.getD k 0) = m := by omega
      rw [e]
      exact h.2.imp id (fun ⟨j, h1, h2⟩ => ⟨j, by omega, h2⟩)
theorem isMx_all {s : List Int} {m : Int} (h1 : ∀ j, j < s.length → s.getD j 0 ≤ m) (h2 : m = -1 ∨ ∃ j, j < s.length ∧ s.getD j 0 = m) : IsMx s m := by
  refine ⟨fun y hy => ?_, h2.imp id (fun ⟨j, hj, e⟩ => e ▸ getD_mem hj)⟩
  obtain ⟨j, hj, e⟩ := List.getElem_of_mem hy
  have := h1 j hj
  have e2 : s.getD j 0 = s[j] := by simp [List.getD, hj]
  omega
end Go.Proofs.Ytdchpiihjjjpfaa
