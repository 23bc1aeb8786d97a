/-
  Plain: what comes and goes again leaves the marks where they were; what an edit does to two marks.
-/
import Derived.Test.YtdaccgnfhagoeaaMka
namespace Go.Proofs.Ytdaccgnfhagoeaa
set_option linter.unusedSimpArgs false
set_option linter.unusedVariables false

theorem ins_no (s : St) (a n : Int) : (s.ins a n).2 = 0 → 0 ≤ a ∧ a ≤ s.sz ∧ 0 ≤ n ∧ n ≤ 65536 - s.sz := by
  unfold St.ins
  split
  · intro h; cases h
  split
  · intro h; cases h
  split
  · intro h; cases h
  · intro _; omega
theorem back_mk (a n : Int) (hn : 0 ≤ n) (m : Mk) : delP a (a + n) (insP a n m) = m := by
  obtain ⟨i, p, b⟩ := m
  unfold insP
  split
  · next h =>
    unfold delP
    simp only at h ⊢
    rw [if_pos (by omega)]
    simp only [Mk.mk.injEq, true_and, and_true]
    omega
  · next h =>
    unfold delP
    simp only at h ⊢
    split
    · simp only [Mk.mk.injEq, true_and, and_true]
      rename_i h2
      cases b
      · simp at h; omega
      · simp at h; omega
    · simp only [Mk.mk.injEq, true_and, and_true]
      cases b
      · simp at h; omega
      · simp at h; omega
theorem back16 {s : St} {N : Int} (hk : s.ok N) (a n : Int) (h : (s.ins a n).2 = 0) : 0 ≤ a ∧ 0 ≤ n ∧ (s.ins a n).1.del a (a + n) = (s, 0) := by
  obtain ⟨h0, h1, h2, h3⟩ := ins_no s a n h
  refine ⟨h0, h2, ?_⟩
  have hi : s.ins a n = (⟨s.sz + n, s.nx, s.L.map (insP a n)⟩, 0) := by
    unfold St.ins
    rw [if_neg (by omega), if_neg (by omega), if_neg (by omega)]
  rw [hi]
  unfold St.del
  rw [if_neg (by show ¬ (a < 0 ∨ s.sz + n < a + n ∨ a + n < a); omega)]
  obtain ⟨sz, nx, L⟩ := s
  simp only [Prod.mk.injEq, St.mk.injEq, true_and, and_true]
  refine ⟨by omega, ?_⟩
  rw [List.map_map]
  have : (delP a (a + n) ∘ insP a n) = id := by funext m; exact back_mk a n h2 m
  rw [this, List.map_id]
end Go.Proofs.Ytdaccgnfhagoeaa
