/-
  Runs, out of the texts of stage 5: what this program has of them (Oa).
-/
import Derived.Test.YtoodhpgaikmalaaRows
import Derived.WalkKit
namespace Go.Proofs.Ytoodhpgaikmalaa
set_option linter.unusedSimpArgs false
set_option linter.unusedVariables false
structure Box (p : Prop) : Prop where
  out : p
theorem boxed {p : Prop} (h : p) : Box p := ⟨h⟩
def flat : List (Nat × Int) → List Int
  | [] => []
  | p :: r => List.replicate p.1 p.2 ++ flat r
def enc : List Int → List (Nat × Int)
  | [] => []
  | y :: s => match enc s with
    | [] => [(1, y)]
    | q :: r => if y = q.2 then (q.1 + 1, q.2) :: r else (1, y) :: q :: r
def Can : List (Nat × Int) → Prop
  | [] => True
  | p :: r => 0 < p.1 ∧ (∀ q, r.head? = some q → q.2 ≠ p.2) ∧ Can r
theorem flat_app (a b : List (Nat × Int)) : flat (a ++ b) = flat a ++ flat b := by
  induction a with
  | nil => rfl
  | cons p r ih => simp [flat, ih]
theorem flat_enc (s : List Int) : flat (enc s) = s := by
  induction s with
  | nil => rfl
  | cons y s ih =>
    unfold enc
    split
    · next h => rw [h] at ih; simp [flat] at ih ⊢; exact ih
    · next q r h =>
      rw [h] at ih
      split
      · next e => simp only [flat, List.replicate_succ, List.cons_append] at ih ⊢; rw [ih, e]
      · simp only [flat, List.replicate_succ, List.replicate_zero, List.cons_append, List.nil_append] at ih ⊢; rw [ih]
theorem can_enc (s : List Int) : Can (enc s) := by
  induction s with
  | nil => trivial
  | cons y s ih =>
    unfold enc
    split
    · exact ⟨by simp, by simp, trivial⟩
    · next q r h =>
      rw [h] at ih
      split
      · exact ⟨by simp, ih.2.1, ih.2.2⟩
      · next e => exact ⟨by simp, fun q' h' => by simp at h'; subst h'; exact fun c => e c.symm, ih⟩
theorem enc_rep (l : Nat) (y : Int) (t : List Int) (hl : 0 < l) (h : ∀ q, (enc t).head? = some q → q.2 ≠ y) : enc (List.replicate l y ++ t) = (l, y) :: enc t := by
  induction l with
  | zero => omega
  | succ l ih =>
    rw [List.replicate_succ, List.cons_append]
    by_cases c : l = 0
    · subst c
      simp only [List.replicate_zero, List.nil_append]
      rw [enc]
      split
      · next e => rw [e]
      · next q r e =>
        rw [if_neg (fun e' => h q (by rw [e]; rfl) e'.symm), e]
    · rw [enc, ih (by omega)]
      simp
theorem enc_flat (R : List (Nat × Int)) (h : Can R) : enc (flat R) = R := by
  induction R with
  | nil => rfl
  | cons p r ih =>
    obtain ⟨h1, h2, h3⟩ := h
    have e := ih h3
    show enc (List.replicate p.1 p.2 ++ flat r) = _
    rw [enc_rep p.1 p.2 (flat r) h1 (by rw [e]; exact h2), e]
theorem can_snoc (R : List (Nat × Int)) (p : Nat × Int) (h : Can R) (hp : 0 < p.1) (hl : ∀ q, R.getLast? = some q → q.2 ≠ p.2) : Can (R ++ [p]) := by
  induction R with
  | nil => exact ⟨hp, by simp, trivial⟩
  | cons a r ih =>
    obtain ⟨h1, h2, h3⟩ := h
    refine ⟨h1, ?_, ih h3 (fun q hq => hl q ?_)⟩
    · intro q hq
      cases r with
      | nil => simp at hq; subst hq; exact fun e => hl a (by simp) e.symm
      | cons b r => exact h2 q (by simpa using hq)
    · cases r with
      | nil => simp at hq
      | cons b r => simpa [List.getLast?_cons_cons] using hq
theorem can_unsnoc (R : List (Nat × Int)) (p : Nat × Int) (h : Can (R ++ [p])) : Can R ∧ 0 < p.1 ∧ ∀ q, R.getLast? = some q → q.2 ≠ p.2 := by
  induction R with
  | nil => exact ⟨trivial, h.1, by simp⟩
  | cons a r ih =>
    obtain ⟨h1, h2, h3⟩ := h
    obtain ⟨k1, k2, k3⟩ := ih h3
    refine ⟨⟨h1, fun q hq => h2 q (by cases r <;> simp_all), k1⟩, k2, ?_⟩
    intro q hq
    cases r with
    | nil => simp at hq; subst hq; exact fun e => h2 p (by simp) e.symm
    | cons b r => exact k3 q (by simpa [List.getLast?_cons_cons] using hq)
theorem enc_add_nil (l : Nat) (y : Int) (hl : 0 < l) : enc (List.replicate l y) = [(l, y)] := by
  have := enc_rep l y [] hl (by simp [enc])
  simpa [enc] using this
theorem enc_add_like (s : List Int) (R0 : List (Nat × Int)) (l0 l : Nat) (y : Int) (h : enc s = R0 ++ [(l0, y)]) : enc (s ++ List.replicate l y) = R0 ++ [(l0 + l, y)] := by
  have hc := can_enc s
  rw [h] at hc
  obtain ⟨k1, k2, k3⟩ := can_unsnoc _ _ hc
  have hs := flat_enc s
  rw [h] at hs
  rw [← hs, flat_app]
  have : flat R0 ++ flat [(l0, y)] ++ List.replicate l y = flat (R0 ++ [(l0 + l, y)]) := by
    rw [flat_app]; simp [flat, List.append_assoc, List.replicate_append_replicate]
  rw [this]
  exact enc_flat _ (can_snoc _ _ k1 (by simp at k2 ⊢; omega) k3)
theorem enc_add_new (s : List Int) (l : Nat) (y : Int) (hl : 0 < l) (h : ∀ q, (enc s).getLast? = some q → q.2 ≠ y) : enc (s ++ List.replicate l y) = enc s ++ [(l, y)] := by
  have hs := flat_enc s
  have : s ++ List.replicate l y = flat (enc s ++ [(l, y)]) := by rw [flat_app, hs]; simp [flat]
  rw [this]
  exact enc_flat _ (can_snoc _ _ (can_enc s) hl h)
def sm : List (Nat × Int) → Nat
  | [] => 0
  | p :: r => p.1 + sm r
theorem sm_flat (R : List (Nat × Int)) : (flat R).length = sm R := by
  induction R with
  | nil => rfl
  | cons p r ih => simp [flat, sm, ih]
theorem sm_enc (s : List Int) : sm (enc s) = s.length := by rw [← sm_flat, flat_enc]
theorem sm_app (a b : List (Nat × Int)) : sm (a ++ b) = sm a + sm b := by
  induction a with
  | nil => simp [sm]
  | cons p r ih => simp [sm, ih]; omega
theorem can_len (R : List (Nat × Int)) (h : Can R) : R.length ≤ sm R := by
  induction R with
  | nil => simp [sm]
  | cons p r ih => obtain ⟨h1, _, h3⟩ := h; have := ih h3; simp [sm]; omega
theorem enc_len (s : List Int) : (enc s).length ≤ s.length := by have := can_len _ (can_enc s); rw [sm_enc] at this; exact this
theorem enc_nil (s : List Int) : (enc s).length = 0 ↔ s.length = 0 := by
  constructor
  · intro h
    have h' : enc s = [] := List.length_eq_zero_iff.1 h
    have := flat_enc s
    rw [h'] at this
    simp [← this, flat]
  · intro h; have := enc_len s; omega
def Ys (R : List (Nat × Int)) (k : Nat) : Int := (R.getD k (0, 0)).2
theorem Ys_cons (p : Nat × Int) (r : List (Nat × Int)) (k : Nat) : Ys (p :: r) (k + 1) = Ys r k := by simp [Ys]
def Sok (s : List Int) : Prop := ∀ y ∈ s, 0 ≤ y ∧ y < 32
end Go.Proofs.Ytoodhpgaikmalaa
