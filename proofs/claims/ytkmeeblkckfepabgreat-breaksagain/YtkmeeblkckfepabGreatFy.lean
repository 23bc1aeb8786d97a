/-
  More tolerance, and the emergency's rule, in plain words. No program in it.
-/
import Derived.Test.YtkmeeblkckfepabGreatFw
namespace Go.Proofs.YtkmeeblkckfepabGreat
set_option linter.unusedSimpArgs false
set_option linter.unusedVariables false

section
variable {I : Nat → Itm} {n : Nat} {width : Int} {s : Stg}
theorem may_more {T T' : Int} (h : T ≤ T') {i j : Nat} (hm : mayL (PT I n width s T) i j = true) : mayL (PT I n width s T') i j = true := by
  obtain ⟨h1, h2, h3, h4⟩ := (mayL_iff _ _ _).1 hm
  refine (mayL_iff _ _ _).2 ⟨h1, h2, ?_, h4⟩
  simp only [PT, Bool.and_eq_true, decide_eq_true_eq] at h3 ⊢
  exact ⟨h3.1, by omega⟩
theorem cw_more {T T' : Int} (h : T ≤ T') (l : List Nat) : ∀ (i : Nat) (a c : Int), cw (PT I n width s T) i a l = some c → cw (PT I n width s T') i a l = some c := by
  induction l with
  | nil => intro i a c hc; exact hc
  | cons j t ih =>
    intro i a c hc
    obtain ⟨hs, r, hr, e⟩ := cw_cons _ _ _ _ _ _ hc
    rw [e]
    exact cw_mk _ _ _ _ _ _ (may_more h hs) (ih _ _ _ hr)
/-- With more tolerance lines don't cost more. -/
theorem brk_more {T c c' : Int} {l l' : List Nat} {em em' : Bool} (h : Brk I n width s c l em) (h' : Brk I n width { s with t := T } c' l' em') (hT : s.t ≤ T) : em = true ∨ (em' = false ∧ c' ≤ c) := by
  rcases h with ⟨h1, h2⟩ | ⟨h1, -⟩
  · right
    have hc := cw_more hT _ _ _ _ h2.1
    rcases h' with ⟨g1, g2⟩ | ⟨-, g2, -⟩
    · refine ⟨g1, ?_⟩
      have := g2.2 l c hc
      omega
    · exact (noway_some g2 hc).elim
  · exact .inl h1
/-- A breaking is one. -/
theorem brk_one {c c' : Int} {l l' : List Nat} {em em' : Bool} (h : Brk I n width s c l em) (h' : Brk I n width s c' l' em') : c = c' ∧ l = l' ∧ em = em' := by
  rcases h with ⟨h1, h2⟩ | ⟨h1, h2, h3⟩
  · rcases h' with ⟨g1, g2⟩ | ⟨-, g2, -⟩
    · have := h2.one g2; exact ⟨this.1, this.2, by rw [h1, g1]⟩
    · exact (noway_some g2 h2.1).elim
  · rcases h' with ⟨-, g2⟩ | ⟨g1, g2, g3⟩
    · exact (noway_some h2 g2.1).elim
    · refine ⟨?_, ?_, by rw [h1, g1]⟩
      all_goals
        rcases h3 with h3 | ⟨h3, h4, h5⟩
        all_goals rcases g3 with g3 | ⟨g3, g4, g5⟩
        · first | exact (h3.one g3).1 | exact (h3.one g3).2
        · exact (noway_some g3 h3.1).elim
        · exact (noway_some h3 g3.1).elim
        · first | rw [h4, g4] | rw [h5, g5]
end
end Go.Proofs.YtkmeeblkckfepabGreat
