/-
  Plain: the words of a text.
-/
import Derived.Test.YtflhefgmgdgffaaDoorHyc
namespace Go.Proofs.YtflhefgmgdgffaaDoor
open Go.RowKit Go.Maps
set_option linter.unusedSimpArgs false
set_option linter.unusedVariables false

abbrev PR := List (Nat × Nat)
/-- The words that ended, and where one is under way. -/
def ws (s : ByteArray) : Nat → PR × Option Nat
  | 0 => ([], none)
  | k + 1 => if ltr (rn s k) = true then ((ws s k).1, some ((ws s k).2.getD (it s k))) else match (ws s k).2 with
    | none => ((ws s k).1, none)
    | some c => ((ws s k).1 ++ [(c, it s k)], none)
theorem ws_in (s : ByteArray) (k : Nat) {F : PR} {c : Nat} (h : ws s k = (F, some c)) (hl : ltr (rn s k) = true) : ws s (k + 1) = (F, some c) := by
  simp only [ws, h, if_pos hl]; rfl
theorem ws_go (s : ByteArray) (k : Nat) {F : PR} (h : ws s k = (F, none)) (hl : ltr (rn s k) = true) : ws s (k + 1) = (F, some (it s k)) := by
  simp only [ws, h, if_pos hl]; rfl
theorem ws_end (s : ByteArray) (k : Nat) {F : PR} {c : Nat} (h : ws s k = (F, some c)) (hl : ltr (rn s k) = false) : ws s (k + 1) = (F ++ [(c, it s k)], none) := by
  simp only [ws, h, hl]; rfl
theorem ws_out (s : ByteArray) (k : Nat) {F : PR} (h : ws s k = (F, none)) (hl : ltr (rn s k) = false) : ws s (k + 1) = (F, none) := by
  simp only [ws, h, hl]; rfl
/-- The words so far; the one under way up to e. -/
def wsl (p : PR × Option Nat) (e : Nat) : PR := match p.2 with
  | none => p.1
  | some c => p.1 ++ [(c, e)]
theorem wsl_none {F : PR} (e : Nat) : wsl (F, none) e = F := rfl
theorem wsl_some {F : PR} (c e : Nat) : wsl (F, some c) e = F ++ [(c, e)] := rfl
/-- The words of a text. -/
def Wds (s : ByteArray) : PR := wsl (ws s (nR s)) (it s (nR s))
theorem ws_len (s : ByteArray) : ∀ k, (ws s k).1.length + ((ws s k).2.isSome.toNat) ≤ k := by
  intro k
  induction k with
  | zero => simp [ws]
  | succ k ih =>
    obtain ⟨F, o, h⟩ : ∃ F o, ws s k = (F, o) := ⟨_, _, rfl⟩
    rw [h] at ih
    cases hl : ltr (rn s k) with
    | true =>
      cases o with
      | none => rw [ws_go s k h hl]; simp at ih ⊢; omega
      | some c => rw [ws_in s k h hl]; simp at ih ⊢; omega
    | false =>
      cases o with
      | none => rw [ws_out s k h hl]; simp at ih ⊢; omega
      | some c => rw [ws_end s k h hl]; simp at ih ⊢; omega
/-- A word begins ahead of its end, and ends ahead of what comes. -/
theorem ws_ok (s : ByteArray) : ∀ k, k ≤ nR s → (∀ x ∈ (ws s k).1, x.1 ≤ x.2 ∧ x.2 < it s k) ∧ ∀ c, (ws s k).2 = some c → c < it s k := by
  intro k
  induction k with
  | zero => intro _; exact ⟨fun x hx => by simp [ws] at hx, fun c hc => by simp [ws] at hc⟩
  | succ k ih =>
    intro hk
    have ih := ih (by omega)
    have hit := (it_lt s k (by omega)).1
    obtain ⟨F, o, h⟩ : ∃ F o, ws s k = (F, o) := ⟨_, _, rfl⟩
    rw [h] at ih
    cases hl : ltr (rn s k) with
    | true =>
      cases o with
      | none =>
        rw [ws_go s k h hl]
        exact ⟨fun x hx => ⟨(ih.1 x hx).1, by have := (ih.1 x hx).2; omega⟩, fun c hc => by injection hc with hc; omega⟩
      | some c =>
        rw [ws_in s k h hl]
        exact ⟨fun x hx => ⟨(ih.1 x hx).1, by have := (ih.1 x hx).2; omega⟩, fun c' hc => by have := ih.2 c' hc; omega⟩
    | false =>
      cases o with
      | none =>
        rw [ws_out s k h hl]
        exact ⟨fun x hx => ⟨(ih.1 x hx).1, by have := (ih.1 x hx).2; omega⟩, fun c hc => by cases hc⟩
      | some c =>
        rw [ws_end s k h hl]
        refine ⟨fun x hx => ?_, fun c hc => by cases hc⟩
        rcases List.mem_append.1 hx with hx | hx
        · exact ⟨(ih.1 x hx).1, by have := (ih.1 x hx).2; omega⟩
        · simp at hx; subst hx
          have := ih.2 c rfl
          exact ⟨by simp only; omega, by simp only; omega⟩
theorem wds_ok (s : ByteArray) : ∀ x ∈ Wds s, x.1 ≤ x.2 ∧ x.2 ≤ s.size := by
  intro x hx
  have h := ws_ok s (nR s) (Nat.le_refl _)
  have hle := it_le s (nR s)
  unfold Wds at hx
  obtain ⟨F, o, hw⟩ : ∃ F o, ws s (nR s) = (F, o) := ⟨_, _, rfl⟩
  rw [hw] at h hx
  cases o with
  | none => rw [wsl_none] at hx; have := h.1 x hx; omega
  | some c =>
    rw [wsl_some] at hx
    rcases List.mem_append.1 hx with hx | hx
    · have := h.1 x hx; omega
    · simp at hx; subst hx
      have := h.2 c rfl
      simp only; omega
theorem wds_len (s : ByteArray) : (Wds s).length ≤ nR s := by
  have h := ws_len s (nR s)
  unfold Wds
  obtain ⟨F, o, hw⟩ : ∃ F o, ws s (nR s) = (F, o) := ⟨_, _, rfl⟩
  rw [hw] at h
  cases o with
  | none => rw [hw, wsl_none]; simp at h; omega
  | some c => rw [hw, wsl_some]; simp at h ⊢; omega
/-! ### Pairs as they lie in memory -/
def pvals (l : PR) : List Value := l.flatMap fun x => [.int .i64 (x.1 : Int), .int .i64 (x.2 : Int)]
theorem pvals_len (l : PR) : (pvals l).length = l.length * 2 := by
  induction l with
  | nil => rfl
  | cons x l ih => simp only [pvals, List.flatMap_cons, List.length_append, List.length_cons] at ih ⊢; rw [ih]; simp; omega
theorem pvals_snoc (l : PR) (b e : Nat) : pvals l ++ [.int .i64 (b : Int), .int .i64 (e : Int)] = pvals (l ++ [(b, e)]) := by simp [pvals]
theorem pvals_get (l : PR) : ∀ i, i < l.length → (pvals l)[i * 2]? = some (.int .i64 ((l.getD i (0, 0)).1 : Nat)) ∧ (pvals l)[i * 2 + 1]? = some (.int .i64 ((l.getD i (0, 0)).2 : Nat)) := by
  induction l with
  | nil => intro i hi; simp at hi
  | cons x l ih =>
    intro i hi
    have e : pvals (x :: l) = .int .i64 (x.1 : Int) :: .int .i64 (x.2 : Int) :: pvals l := rfl
    rw [e]
    cases i with
    | zero => exact ⟨rfl, rfl⟩
    | succ i =>
      have := ih i (by simpa using hi)
      rw [show (i + 1) * 2 = i * 2 + 1 + 1 by omega]
      exact ⟨by simpa using this.1, by simpa using this.2⟩
theorem pvals_end (l : PR) (b e e' : Nat) : (pvals (l ++ [(b, e)])).set (l.length * 2 + 1) (.int .i64 (e' : Int)) = pvals (l ++ [(b, e')]) := by
  rw [← pvals_snoc, ← pvals_snoc]
  have := pvals_len l
  rw [List.set_append_right _ _ (by omega)]
  rw [show l.length * 2 + 1 - (pvals l).length = 1 by omega]
  rfl
theorem pvals_one (l : PR) : ∀ u ∈ pvals l, u.oneCell' = true := by
  intro u hu
  simp only [pvals, List.mem_flatMap] at hu
  obtain ⟨x, -, h⟩ := hu
  simp at h
  rcases h with rfl | rfl <;> rfl
end Go.Proofs.YtflhefgmgdgffaaDoor
