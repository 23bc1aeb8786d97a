/-
  Plain words on paragraphs: a text as a row of bools (is this byte a line end?), the sizes of its paragraphs, whether it is open, where each paragraph begins and ends; what happens when texts are joined and cut. No program in it.
-/
import Derived.Test.YtholifolkimkdaaRows
import Derived.WalkKit
namespace Go.Proofs.Ytholifolkimkdaa
set_option linter.unusedSimpArgs false
set_option linter.unusedVariables false

/-- A fact that the walk shall not look into. -/
structure Box (p : Prop) : Prop where
  out : p
theorem boxed {p : Prop} (h : p) : Box p := ⟨h⟩

/-- A byte more ahead, that is no line end. -/
def bump : List Nat → List Nat
  | [] => [1]
  | n :: t => (n + 1) :: t
/-- The sizes of the paragraphs. -/
def sp : List Bool → List Nat
  | [] => []
  | true :: r => 1 :: sp r
  | false :: r => bump (sp r)
/-- Has the last one no line end? -/
def op : List Bool → Bool
  | [] => false
  | [c] => !c
  | _ :: d :: r => op (d :: r)
theorem op_cons (c : Bool) (r : List Bool) (h : r ≠ []) : op (c :: r) = op r := by
  cases r with
  | nil => exact absurd rfl h
  | cons d r => rfl
theorem op_app (X Y : List Bool) (h : Y ≠ []) : op (X ++ Y) = op Y := by
  induction X with
  | nil => rfl
  | cons c X ih => rw [List.cons_append, op_cons _ _ (by simp [h]), ih]
theorem op_last (l : List Bool) (h : 0 < l.length) : op l = !(l.getD (l.length - 1) false) := by
  induction l with
  | nil => simp at h
  | cons c r ih =>
    cases r with
    | nil => rfl
    | cons d r => rw [op_cons _ _ (by simp), ih (by simp)]; simp
theorem bump_len (P : List Nat) : (bump P).sum = P.sum + 1 := by cases P <;> simp [bump]; omega
theorem sp_sum (l : List Bool) : (sp l).sum = l.length := by
  induction l with
  | nil => rfl
  | cons c r ih => cases c <;> simp [sp, bump_len, ih]; omega
theorem sp_pos (l : List Bool) : ∀ n ∈ sp l, 0 < n := by
  induction l with
  | nil => simp [sp]
  | cons c r ih =>
    cases c with
    | true => intro n hn; simp [sp] at hn; rcases hn with rfl | hn
              · omega
              · exact ih n hn
    | false =>
      intro n hn
      simp only [sp] at hn
      cases hP : sp r with
      | nil => rw [hP] at hn; simp [bump] at hn; omega
      | cons m t =>
        rw [hP] at hn ih
        simp [bump] at hn
        rcases hn with rfl | hn
        · omega
        · exact ih n (by simp [hn])
theorem pos_len (P : List Nat) (h : ∀ n ∈ P, 0 < n) : P.length ≤ P.sum := by
  induction P with
  | nil => simp
  | cons n t ih => have := h n (by simp); have := ih (fun m hm => h m (by simp [hm])); simp; omega
theorem sp_len (l : List Bool) : (sp l).length ≤ l.length := by have := pos_len _ (sp_pos l); rw [sp_sum] at this; exact this
theorem sp_nil (l : List Bool) : (sp l).length = 0 ↔ l.length = 0 := by
  constructor
  · intro h
    have e : sp l = [] := List.length_eq_zero_iff.1 h
    have := sp_sum l
    rw [e] at this
    simpa using this.symm
  · intro h; have := sp_len l; omega

/-- Where the paragraph k begins. -/
def Bg (P : List Nat) (k : Nat) : Nat := (P.take k).sum
theorem Bg_zero (P : List Nat) : Bg P 0 = 0 := rfl
theorem Bg_cons (n : Nat) (t : List Nat) (k : Nat) : Bg (n :: t) (k + 1) = n + Bg t k := by simp [Bg]
theorem Bg_all (P : List Nat) (k : Nat) (h : P.length ≤ k) : Bg P k = P.sum := by unfold Bg; rw [List.take_of_length_le h]
theorem Bg_sp (l : List Bool) (k : Nat) (h : (sp l).length ≤ k) : Bg (sp l) k = l.length := by rw [Bg_all _ _ h, sp_sum]
theorem Bg_get (P : List Nat) (k : Nat) (h : k < P.length) : Bg P (k + 1) = Bg P k + P.getD k 0 := by
  induction P generalizing k with
  | nil => simp at h
  | cons n t ih =>
    cases k with
    | zero => simp [Bg]
    | succ k => rw [Bg_cons, Bg_cons, ih k (by simpa using h)]; simp; omega
theorem Bg_step (P : List Nat) (hp : ∀ n ∈ P, 0 < n) (k : Nat) (h : k < P.length) : Bg P k < Bg P (k + 1) := by
  rw [Bg_get P k h]
  have := hp (P.getD k 0) (by rw [List.getD_eq_getElem?_getD, List.getElem?_eq_getElem h]; simp)
  omega
theorem Bg_mono (P : List Nat) (j k : Nat) (h : j ≤ k) : Bg P j ≤ Bg P k := by
  induction P generalizing j k with
  | nil => simp [Bg]
  | cons n t ih =>
    cases j with
    | zero => rw [Bg_zero]; omega
    | succ j =>
      obtain ⟨m, rfl⟩ : ∃ m, k = m + 1 := ⟨k - 1, by omega⟩
      rw [Bg_cons, Bg_cons]; have := ih j m (by omega); omega
theorem Bg_le (P : List Nat) (k : Nat) : Bg P k ≤ P.sum := by
  have := Bg_mono P k (k + P.length) (by omega)
  rw [Bg_all P (k + P.length) (by omega)] at this
  exact this
theorem Bg_add (P : List Nat) (j k : Nat) : Bg P (j + k) = Bg P j + Bg (P.drop j) k := by
  induction P generalizing j with
  | nil => simp [Bg]
  | cons n t ih =>
    cases j with
    | zero => simp [Bg_zero]
    | succ j => rw [show j + 1 + k = j + k + 1 from by omega, Bg_cons, Bg_cons, ih j]; simp; omega
theorem Bg_app_left (P Q : List Nat) (k : Nat) (h : k ≤ P.length) : Bg (P ++ Q) k = Bg P k := by
  unfold Bg; rw [List.take_append_of_le_length h]

/-- The rest, if there is one. -/
def hd0 : Nat → List Nat
  | 0 => []
  | n + 1 => [n + 1]
def nz : Nat → Bool
  | 0 => false
  | _ + 1 => true
theorem nz_iff (n : Nat) : nz n = true ↔ 0 < n := by cases n <;> simp [nz]
/-- A place within a paragraph: what is ahead, what is behind. -/
theorem cut_in (l : List Bool) (k i : Nat) (hk : k < (sp l).length) (h1 : Bg (sp l) k ≤ i) (h2 : i < Bg (sp l) (k + 1)) :
    sp (l.take i) = (sp l).take k ++ hd0 (i - Bg (sp l) k) ∧ op (l.take i) = nz (i - Bg (sp l) k) ∧
    sp (l.drop i) = (Bg (sp l) (k + 1) - i) :: (sp l).drop (k + 1) ∧ (l.take i).count true = k := by
  induction l generalizing k i with
  | nil => simp [sp] at hk
  | cons c r ih =>
    by_cases hi : i = 0
    · subst hi
      have hz : k = 0 := by
        by_cases hz : k = 0
        · exact hz
        · have h3 := Bg_mono (sp (c :: r)) 1 k (by omega)
          have h4 := Bg_step _ (sp_pos (c :: r)) 0 (by omega)
          rw [Bg_zero] at h4
          rw [Nat.zero_add] at h4
          omega
      subst hz
      rw [Bg_zero]
      refine ⟨by simp [sp, hd0], by simp [op, nz], ?_, by simp⟩
      rw [List.drop_zero]
      generalize sp (c :: r) = P at hk
      cases P with
      | nil => simp at hk
      | cons n t => simp [Bg]
    · obtain ⟨j, rfl⟩ : ∃ j, i = j + 1 := ⟨i - 1, by omega⟩
      cases c with
      | true =>
        have e0 : sp (true :: r) = 1 :: sp r := rfl
        rw [e0] at hk h1 h2 ⊢
        cases k with
        | zero => simp [Bg] at h2
        | succ k =>
          rw [Bg_cons] at h1 h2
          rw [Bg_cons, Bg_cons]
          obtain ⟨a1, a2, a3, a4⟩ := ih k j (by simpa using hk) (by omega) (by omega)
          rw [List.take_succ_cons, List.drop_succ_cons]
          have e1 : j + 1 - (1 + Bg (sp r) k) = j - Bg (sp r) k := by omega
          rw [e1]
          refine ⟨?_, ?_, ?_, ?_⟩
          · rw [sp, a1]; rfl
          · by_cases e : r.take j = []
            · have : j = 0 := by
                have hl := congrArg List.length e
                simp at hl; rcases hl with h | h
                · exact h
                · subst h; simp [sp, Bg] at h2
              subst this
              simp [op, nz]
            · rw [op_cons _ _ e, a2]
          · rw [a3]; simp; omega
          · simp [a4]
      | false =>
        cases hP : sp r with
        | nil =>
          have e : sp (false :: r) = [1] := by simp [sp, hP, bump]
          rw [e] at hk h2
          have : k = 0 := by simp at hk; omega
          subst this
          simp [Bg] at h2
        | cons n t =>
          have e : sp (false :: r) = (n + 1) :: t := by simp [sp, hP, bump]
          rw [e] at hk h1 h2 ⊢
          rw [hP] at ih
          rw [List.take_succ_cons, List.drop_succ_cons]
          cases k with
          | zero =>
            rw [Bg_zero] at h1 ⊢
            rw [Bg_cons, Bg_zero] at h2 ⊢
            obtain ⟨a1, a2, a3, a4⟩ := ih 0 j (by simp) (by rw [Bg_zero]; omega) (by rw [Bg_cons, Bg_zero]; omega)
            rw [Bg_zero] at a1 a2
            rw [Bg_cons, Bg_zero] at a3
            refine ⟨?_, ?_, ?_, ?_⟩
            · rw [sp, a1]
              cases j <;> simp [bump, hd0]
            · by_cases e : r.take j = []
              · rw [e]; simp [op, nz]
              · rw [op_cons _ _ e, a2]
                cases j with
                | zero => simp at e
                | succ j => rfl
            · rw [a3]; simp
            · simp [a4]
          | succ k =>
            rw [Bg_cons] at h1 h2
            rw [Bg_cons, Bg_cons]
            obtain ⟨a1, a2, a3, a4⟩ := ih (k + 1) j (by simpa using hk) (by rw [Bg_cons]; omega) (by rw [Bg_cons]; omega)
            rw [Bg_cons] at a1 a2 a3
            have e1 : j + 1 - (n + 1 + Bg t k) = j - (n + Bg t k) := by omega
            rw [e1]
            refine ⟨?_, ?_, ?_, ?_⟩
            · rw [sp, a1]; simp [bump]
            · have e : r.take j ≠ [] := by
                intro e
                rw [e] at a1
                simp [sp] at a1
              rw [op_cons _ _ e, a2]
            · rw [a3]; simp; omega
            · simp [a4]
/-- Joined: the first not open. -/
theorem sp_shut (X Y : List Bool) (h : op X = false) : sp (X ++ Y) = sp X ++ sp Y := by
  induction X with
  | nil => rfl
  | cons c X ih =>
    by_cases e : X = []
    · subst e
      cases c with
      | true => rfl
      | false => simp [op] at h
    · rw [op_cons _ _ e] at h
      have hi := ih h
      cases c with
      | true => simp [sp, hi]
      | false =>
        simp only [List.cons_append, sp, hi]
        cases hX : sp X with
        | nil =>
          have := (sp_nil X).1 (by rw [hX]; rfl)
          exact absurd (List.length_eq_zero_iff.1 this) e
        | cons n t => simp [bump]
/-- Joined: the first open. -/
theorem sp_open (X Y : List Bool) (Q T : List Nat) (a b : Nat) (h : op X = true) (hX : sp X = Q ++ [a]) (hY : sp Y = b :: T) : sp (X ++ Y) = Q ++ (a + b) :: T := by
  induction X generalizing Q a with
  | nil => simp [op] at h
  | cons c X ih =>
    by_cases e : X = []
    · subst e
      cases c with
      | true => simp [op] at h
      | false =>
        simp only [sp, bump] at hX
        have hQ : Q = [] := by
          have := congrArg List.length hX
          simp at this
          exact this
        subst hQ
        simp at hX
        subst hX
        simp [sp, hY, bump]; omega
    · rw [op_cons _ _ e] at h
      have hne : sp X ≠ [] := fun h' => e (List.length_eq_zero_iff.1 ((sp_nil X).1 (by rw [h']; rfl)))
      cases c with
      | true =>
        simp only [sp] at hX
        cases Q with
        | nil => simp at hX; exact absurd hX.2 hne
        | cons q Q =>
          simp only [List.cons_append, List.cons.injEq] at hX
          have := ih Q a h hX.2
          simp [sp, this, hX.1]
      | false =>
        simp only [sp] at hX
        cases hP : sp X with
        | nil => exact absurd hP hne
        | cons n t =>
          rw [hP] at hX
          simp only [bump] at hX
          cases Q with
          | nil =>
            simp only [List.nil_append, List.cons.injEq] at hX
            obtain ⟨h1, h2⟩ := hX
            have := ih [] n h (by rw [hP, h2]; rfl)
            simp only [List.cons_append, sp, this, List.nil_append, bump]
            congr 1; omega
          | cons q Q =>
            simp only [List.cons_append, List.cons.injEq] at hX
            have := ih (n :: Q) a h (by rw [hP, hX.2]; rfl)
            simp only [List.cons_append, sp, this, bump, hX.1]
theorem holder_ex (l : List Bool) (i : Nat) (h : i < l.length) : ∃ k, k < (sp l).length ∧ Bg (sp l) k ≤ i ∧ i < Bg (sp l) (k + 1) := by
  have key : ∀ k, k ≤ (sp l).length → i < Bg (sp l) k → ∃ k, k < (sp l).length ∧ Bg (sp l) k ≤ i ∧ i < Bg (sp l) (k + 1) := by
    intro k
    induction k with
    | zero => intro _ h2; rw [Bg_zero] at h2; omega
    | succ k ih =>
      intro hk h2
      by_cases c : i < Bg (sp l) k
      · exact ih (by omega) c
      · exact ⟨k, by omega, by omega, h2⟩
  exact key (sp l).length (Nat.le_refl _) (by rw [Bg_sp _ _ (Nat.le_refl _)]; exact h)
/-- Which paragraph it is, is told by the line ends ahead. -/
def fnd (l : List Bool) (i : Nat) : Nat := (l.take i).count true
theorem fnd_of (l : List Bool) (k i : Nat) (hk : k < (sp l).length) (h1 : Bg (sp l) k ≤ i) (h2 : i < Bg (sp l) (k + 1)) : fnd l i = k := (cut_in l k i hk h1 h2).2.2.2
theorem fnd_spec (l : List Bool) (i : Nat) (h : i < l.length) : fnd l i < (sp l).length ∧ Bg (sp l) (fnd l i) ≤ i ∧ i < Bg (sp l) (fnd l i + 1) := by
  obtain ⟨k, a, b, c⟩ := holder_ex l i h
  rw [fnd_of l k i a b c]; exact ⟨a, b, c⟩
theorem fnd_mono (l : List Bool) (i j : Nat) (h : i ≤ j) : fnd l i ≤ fnd l j := by
  unfold fnd
  have e : l.take i = (l.take j).take i := by rw [List.take_take, Nat.min_eq_left h]
  rw [e]
  exact List.Sublist.count_le true (List.take_sublist _ _)
theorem fnd_le (l : List Bool) (i : Nat) : fnd l i ≤ l.length := by
  unfold fnd
  have := List.count_le_length (a := true) (l := l.take i)
  simp at this; omega
end Go.Proofs.Ytholifolkimkdaa
