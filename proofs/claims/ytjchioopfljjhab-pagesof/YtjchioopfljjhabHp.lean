/-
  Which page has a line: what the program's Find (by halving) answers; pages that begin where numbers leave off.
-/
import Derived.Test.YtjchioopfljjhabHn
import Derived.Test.YtjchioopfljjhabHk
namespace Go.Proofs.Ytjchioopfljjhab
open Go.RowKit
set_option linter.unusedSimpArgs false
set_option linter.unusedVariables false

/-- So many of the numbers are at most r. -/
def Upto (L : List Nat) (r : Int) (q : Nat) : Prop := q ≤ L.length ∧ (∀ j, j < q → ((L.getD j 0 : Nat) : Int) ≤ r) ∧ ∀ j, q ≤ j → j < L.length → r < ((L.getD j 0 : Nat) : Int)
theorem Upto.one {L : List Nat} {r : Int} {q q' : Nat} (h : Upto L r q) (k : Upto L r q') : q = q' := by
  obtain ⟨h1, h2, h3⟩ := h
  obtain ⟨k1, k2, k3⟩ := k
  rcases Nat.lt_trichotomy q q' with c | c | c
  · have := k2 q c; have := h3 q (Nat.le_refl _) (by omega); omega
  · exact c
  · have := h2 q' c; have := k3 q' (Nat.le_refl _) (by omega); omega
theorem upto_some (L : List Nat) (r : Int) (hM : ∀ j k, j ≤ k → k < L.length → L.getD j 0 ≤ L.getD k 0) : ∃ q, Upto L r q := by
  have key : ∀ m, m ≤ L.length → ∃ q, q ≤ m ∧ (∀ j, j < q → ((L.getD j 0 : Nat) : Int) ≤ r) ∧ ∀ j, q ≤ j → j < m → r < ((L.getD j 0 : Nat) : Int) := by
    intro m
    induction m with
    | zero => exact fun _ => ⟨0, Nat.le_refl _, fun j hj => by omega, fun j h1 h2 => by omega⟩
    | succ m ih =>
      intro hm
      obtain ⟨q, h1, h2, h3⟩ := ih (by omega)
      by_cases c : q = m
      · by_cases d : ((L.getD m 0 : Nat) : Int) ≤ r
        · refine ⟨m + 1, Nat.le_refl _, fun j hj => ?_, fun j h4 h5 => by omega⟩
          by_cases e : j = m
          · subst e; exact d
          · exact h2 j (by omega)
        · refine ⟨q, by omega, h2, fun j h4 h5 => ?_⟩
          have e : j = m := by omega
          subst e; omega
      · refine ⟨q, by omega, h2, fun j h4 h5 => ?_⟩
        by_cases e : j = m
        · subst e
          have h6 := h3 q (Nat.le_refl _) (by omega)
          have h7 := hM q j h4 (by omega)
          omega
        · exact h3 j h4 (by omega)
  obtain ⟨q, h1, h2, h3⟩ := key L.length (Nat.le_refl _)
  exact ⟨q, h1, h2, h3⟩
/-- The sum of the first k numbers. -/
def sg (X : Nat → Int) : Nat → Nat
  | 0 => 0
  | k + 1 => sg X k + (X k).toNat
def sgs (X : Nat → Int) (k : Nat) : List Nat := (List.range k).map (sg X)
theorem sgs_len (X : Nat → Int) (j : Nat) : (sgs X j).length = j := by simp [sgs]
theorem sgs_get (X : Nat → Int) (j i : Nat) (h : i < j) : (sgs X j).getD i 0 = sg X i := by simp [sgs, h]
theorem sgs_snoc (X : Nat → Int) (j : Nat) : sgs X (j + 1) = sgs X j ++ [sg X j] := by simp [sgs, List.range_succ]
theorem sg_le (X : Nat → Int) (i j : Nat) (h : i ≤ j) : sg X i ≤ sg X j := by
  induction j with
  | zero => have : i = 0 := by omega
            subst this; exact Nat.le_refl _
  | succ j ih =>
    by_cases c : i = j + 1
    · subst c; exact Nat.le_refl _
    · have := ih (by omega)
      show _ ≤ sg X j + (X j).toNat
      omega
theorem sg_lt (X : Nat → Int) (i j : Nat) (h : i < j) (hX : ∀ k, k < j → 1 ≤ X k) : sg X i < sg X j := by
  have h1 := sg_le X (i + 1) j h
  have h2 := hX i h
  have e : sg X (i + 1) = sg X i + (X i).toNat := rfl
  omega
theorem sg_bound (X : Nat → Int) (B j : Nat) (hX : ∀ k, k < j → X k ≤ B) : sg X j ≤ j * B := by
  induction j with
  | zero => simp [sg]
  | succ j ih =>
    have h1 := ih (fun k hk => hX k (by omega))
    have h2 := hX j (by omega)
    have e : sg X (j + 1) = sg X j + (X j).toNat := rfl
    rw [e, Nat.add_mul, Nat.one_mul]
    omega
theorem sgs_rise (X : Nat → Int) (n : Nat) : ∀ j k, j ≤ k → k < (sgs X n).length → (sgs X n).getD j 0 ≤ (sgs X n).getD k 0 := by
  intro j k h1 h2
  rw [sgs_len] at h2
  rw [sgs_get X n j (by omega), sgs_get X n k h2]
  exact sg_le X j k h1
end Go.Proofs.Ytjchioopfljjhab
