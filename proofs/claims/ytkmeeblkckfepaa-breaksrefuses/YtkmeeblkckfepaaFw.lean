/-
  What a breaking's ways are, in plain words: their lengths, where they end. No program in it.
-/
import Derived.Test.YtkmeeblkckfepaaFu
namespace Go.Proofs.Ytkmeeblkckfepaa
set_option linter.unusedSimpArgs false
set_option linter.unusedVariables false

/-- A way rises, and has no more lines than there are breaks. -/
theorem cw_len (P : Pr) (l : List Nat) : ∀ (i : Nat) (a c : Int), cw P i a l = some c → i + l.length ≤ P.m := by
  induction l with
  | nil => intro i a c h; simp only [cw] at h; split at h; rename_i e; simp [e]; cases h
  | cons j t ih =>
    intro i a c h
    obtain ⟨hs, r, hr, -⟩ := cw_cons P _ _ _ _ _ h
    have h1 := (mayL_iff P _ _).1 hs
    have h2 := ih _ _ _ hr
    simp only [List.length_cons]
    omega
theorem brk_len {I : Nat → Itm} {n : Nat} {width : Int} {s : Stg} {c : Int} {l : List Nat} {em : Bool} (h : Brk I n width s c l em) : l.length ≤ nbk I n := by
  have key : ∀ T, ∀ c, Best (PT I n width s T) 0 (-1) c l → l.length ≤ nbk I n := fun T c h => by
    have := cw_len _ _ _ _ _ h.1
    have e : (PT I n width s T).m = nbk I n := rfl
    omega
  rcases h with ⟨-, h⟩ | ⟨-, -, h | ⟨-, -, h⟩⟩
  · exact key _ _ h
  · exact key _ _ h
  · rw [h]; simp
end Go.Proofs.Ytkmeeblkckfepaa
