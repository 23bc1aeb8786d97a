/-
  Plain: what the document's Points goes through: a word's letters, the words that are known, the patterns one by one, the numbers told.
-/
import Derived.Test.YtflhefgmgdgffaaDoorHyu
namespace Go.Proofs.YtflhefgmgdgffaaDoor
open Go.RowKit Go.Maps
set_option linter.unusedSimpArgs false
set_option linter.unusedVariables false

theorem wst_mono (R : List Nat) (k : Nat) {L A : List Nat} (h : wst R k = some (L, A)) : ∀ n, k ≤ n → ∀ L' A', wst R n = some (L', A') → A.length ≤ A'.length := by
  intro n
  induction n with
  | zero =>
    intro hk L' A' h'
    have : k = 0 := by omega
    subst this
    rw [h] at h'; injection h' with h'; injection h' with _ h'; rw [h']; exact Nat.le_refl _
  | succ n ih =>
    intro hk L' A' h'
    by_cases c : k = n + 1
    · subst c
      rw [h] at h'; injection h' with h'; injection h' with _ h'; rw [h']; exact Nat.le_refl _
    · cases hq : wst R n with
      | none => rw [wst_none R n hq (n + 1) (by omega)] at h'; cases h'
      | some q =>
        obtain ⟨L0, A0⟩ := q
        have h1 := ih (by omega) L0 A0 hq
        have e : wst R (n + 1) = wstep R n (L0, A0) := by
          have : wst R (n + 1) = (wst R n).bind (wstep R n) := rfl
          rw [this, hq]; rfl
        rw [e] at h'
        unfold wstep at h'
        split at h'
        · injection h' with h'; injection h' with _ h2; rw [← h2]; exact h1
        · split at h'
          · injection h' with h'; injection h' with _ h2; rw [← h2]; simp; omega
          · cases h'
theorem no_word {s : ByteArray} {k : Nat} (hk : k < nR s) {L : List Nat} (h : wst (rs s) k = some (L, [])) (hl : ltr (rn s k) = false) : ∀ L', wordT s ≠ some (L', []) := by
  intro L' e
  have hx := (wst_next hk h).2
  have hw : wst (rs s) (nR s) = some (L', []) := by
    unfold wordT at e
    split at e
    · unfold word at e
      split at e
      · rw [rs_len] at e; exact e
      · cases e
    · cases e
  by_cases c : rn s k = 45 ∧ wfl s k = true
  · have h1 := (hx.1 hl c.1 c.2).1
    have := wst_mono _ _ h1 (nR s) (by omega) _ _ hw
    simp at this
  · have h1 := hx.2 hl (by
      by_cases d : rn s k = 45
      · right
        cases f : wfl s k
        · rfl
        · exact absurd ⟨d, f⟩ c
      · exact .inl d)
    rw [wst_none _ _ h1 (nR s) (by omega)] at hw
    cases hw
/-- Whether a word is known, and the row of its hyphens. -/
def KnO (Y : PL) (L : List Nat) (known : Bool) (O : List Nat) : Prop := O.length = L.length + 1 ∧ (lookL Y L = none → known = false ∧ O = List.replicate (L.length + 1) 0) ∧ (∀ A, lookL Y L = some A → known = true ∧ ∀ n, n < L.length + 1 → O.getD n 0 = if n ∈ A then 1 else 0)
theorem kn_none (L : List Nat) : KnO [] L false (List.replicate (L.length + 1) 0) := ⟨by simp, fun _ => ⟨rfl, rfl⟩, fun A h => by simp [lookL] at h⟩
theorem kn_skip {Y : PL} {L : List Nat} {known : Bool} {O : List Nat} (h : KnO Y L known O) {P V : List Nat} (hne : P ≠ L) : KnO (Y ++ [(P, V)]) L known O := by
  have e : lookL (Y ++ [(P, V)]) L = lookL Y L := by rw [lookL_snoc, if_neg hne]
  exact ⟨h.1, fun c => h.2.1 (by rw [← e]; exact c), fun A c => h.2.2 A (by rw [← e]; exact c)⟩
/-- The row of hyphens so far. -/
def HyO (L A : List Nat) (k : Nat) (O : List Nat) : Prop := O.length = L.length + 1 ∧ ∀ n, n < L.length + 1 → O.getD n 0 = if n ∈ A.take k then 1 else 0
theorem replicate_getD (m n : Nat) : (List.replicate m 0).getD n 0 = 0 := by
  simp only [List.getD_eq_getElem?_getD, List.getElem?_replicate]
  split <;> rfl
theorem hy_none (L A : List Nat) : HyO L A 0 (List.replicate (L.length + 1) 0) := ⟨by simp, fun n hn => by rw [replicate_getD]; simp⟩
theorem hy_next {L A O : List Nat} {k : Nat} (h : HyO L A k O) (hk : k < A.length) (ha : A.getD k 0 < L.length + 1) : HyO L A (k + 1) (O.set (A.getD k 0) 1) := by
  refine ⟨by simpa using h.1, fun n hn => ?_⟩
  rw [getD_set _ _ _ _ (by rw [h.1]; exact ha), take_snoc A k hk]
  by_cases c : n = A.getD k 0
  · rw [if_pos c, if_pos (by rw [c]; simp)]
  · rw [if_neg c, h.2 n hn]
    have : (n ∈ A.take k ++ [A.getD k 0]) ↔ n ∈ A.take k := by
      rw [List.mem_append, List.mem_singleton]
      exact ⟨fun x => x.resolve_right c, .inl⟩
    by_cases d : n ∈ A.take k
    · rw [if_pos d, if_pos (this.2 d)]
    · rw [if_neg d, if_neg (fun x => d (this.1 x))]
theorem kn_known {Y : PL} {L A O : List Nat} (h : HyO L A A.length O) : KnO (Y ++ [(L, A)]) L true O := by
  have e : lookL (Y ++ [(L, A)]) L = some A := by rw [lookL_snoc, if_pos rfl]
  refine ⟨h.1, fun c => (by rw [e] at c; cases c), fun A' c => ?_⟩
  rw [e] at c; injection c with c; subst c
  exact ⟨rfl, fun n hn => by rw [h.2 n hn, List.take_length]⟩
/-- Of the patterns ahead of number I. -/
def D1 (I : Nat) (i a k : Nat) : Prop := i < I
def D2 (I A : Nat) (i a k : Nat) : Prop := i < I ∨ (i = I ∧ a < A)
def D3 (I A K : Nat) (i a k : Nat) : Prop := i < I ∨ (i = I ∧ a < A) ∨ (i = I ∧ a = A ∧ k < K)
/-- The row of levels as the document has it: at n what is ahead of letter n. -/
def LvO (Q : PL) (row : List Nat) (C : Nat → Nat → Nat → Prop) (M : Nat) (O : List Nat) : Prop := O.length = M ∧ ∀ n, n < M → Mx (Hit Q row C (n + 1)) (O.getD n 0)
theorem LvO.same {Q : PL} {row : List Nat} {C C' : Nat → Nat → Nat → Prop} {M : Nat} {O : List Nat} (h : LvO Q row C M O) (e : ∀ i a k, Std Q row i a k → (C' i a k ↔ C i a k)) : LvO Q row C' M O :=
  ⟨h.1, fun j hj => hit_same e (h.2 j hj)⟩
theorem LvO.le {Q : PL} {row : List Nat} {C : Nat → Nat → Nat → Prop} {M : Nat} {O : List Nat} (h : LvO Q row C M O) (h9 : ∀ e ∈ Q, ∀ v ∈ e.2, v ≤ 9) (n : Nat) (hn : n < M) : O.getD n 0 ≤ 9 := mx_le (h.2 n hn) h9
theorem lvo_none (Q : PL) (row : List Nat) (M : Nat) : LvO Q row (D1 0) M (List.replicate M 0) := by
  refine ⟨by simp, fun n hn => ?_⟩
  rw [replicate_getD]
  exact Mx.none (fun u ⟨i, a, k, _, c, _⟩ => by unfold D1 at c; omega)
theorem LvO.far {Q : PL} {row : List Nat} {C C' : Nat → Nat → Nat → Prop} {M : Nat} {O : List Nat} {i0 a0 k0 : Nat} (h : LvO Q row C M O) (hs : Std Q row i0 a0 k0) (e : ∀ i a k, Std Q row i a k → (C' i a k ↔ C i a k ∨ (i = i0 ∧ a = a0 ∧ k = k0))) (hf : a0 + k0 = 0 ∨ M ≤ a0 + k0 - 1) : LvO Q row C' M O :=
  ⟨h.1, fun n hn => (hit_add hs e (h.2 n hn)).2 (by omega)⟩
theorem LvO.low {Q : PL} {row : List Nat} {C C' : Nat → Nat → Nat → Prop} {M : Nat} {O : List Nat} {i0 a0 k0 n0 : Nat} (h : LvO Q row C M O) (hs : Std Q row i0 a0 k0) (e : ∀ i a k, Std Q row i a k → (C' i a k ↔ C i a k ∨ (i = i0 ∧ a = a0 ∧ k = k0))) (hn0 : n0 + 1 = a0 + k0) (hl : (Q.getD i0 default).2.getD k0 0 ≤ O.getD n0 0) : LvO Q row C' M O := by
  refine ⟨h.1, fun n hn => ?_⟩
  have ha := hit_add hs e (h.2 n hn)
  by_cases c : n = n0
  · subst c
    have := ha.1 hn0
    rw [Nat.max_eq_left hl] at this
    exact this
  · exact ha.2 (by omega)
theorem LvO.high {Q : PL} {row : List Nat} {C C' : Nat → Nat → Nat → Prop} {M : Nat} {O : List Nat} {i0 a0 k0 n0 : Nat} (h : LvO Q row C M O) (hs : Std Q row i0 a0 k0) (e : ∀ i a k, Std Q row i a k → (C' i a k ↔ C i a k ∨ (i = i0 ∧ a = a0 ∧ k = k0))) (hn0 : n0 + 1 = a0 + k0) (hM : n0 < M) (hl : O.getD n0 0 < (Q.getD i0 default).2.getD k0 0) : LvO Q row C' M (O.set n0 ((Q.getD i0 default).2.getD k0 0)) := by
  refine ⟨by rw [List.length_set]; exact h.1, fun n hn => ?_⟩
  have ha := hit_add hs e (h.2 n hn)
  rw [getD_set _ _ _ _ (by rw [h.1]; exact hM)]
  by_cases c : n = n0
  · subst c
    rw [if_pos rfl]
    have := ha.1 hn0
    rw [Nat.max_eq_right (by omega)] at this
    exact this
  · rw [if_neg c]; exact ha.2 (by omega)
section
variable {Q : PL} {row : List Nat}
theorem d_skip {I : Nat} (hc : ¬ cnts Q I) (i a k : Nat) (h : Std Q row i a k) : D1 (I + 1) i a k ↔ D1 I i a k := by
  unfold D1
  constructor
  · intro c
    by_cases e : i = I
    · subst e; exact absurd h.2.1 hc
    · omega
  · intro c; omega
theorem d_in (I i a k : Nat) : D2 I 0 i a k ↔ D1 I i a k := by unfold D2 D1; omega
theorem d_in3 (I A i a k : Nat) : D3 I A 0 i a k ↔ D2 I A i a k := by unfold D3 D2; omega
theorem d_miss {I A : Nat} {P V : List Nat} (hI : Q.getD I default = (P, V)) (hm : (row.drop A).take P.length ≠ P) (i a k : Nat) (h : Std Q row i a k) : D2 I (A + 1) i a k ↔ D2 I A i a k := by
  unfold D2
  constructor
  · rintro (c | ⟨c1, c2⟩)
    · exact .inl c
    · by_cases e : a = A
      · have := h.2.2.2.1
        rw [c1, hI, e] at this
        exact absurd this hm
      · exact .inr ⟨c1, by omega⟩
  · rintro (c | ⟨c1, c2⟩)
    · exact .inl c
    · exact .inr ⟨c1, by omega⟩
theorem d_next (I A K i a k : Nat) : D3 I A (K + 1) i a k ↔ D3 I A K i a k ∨ (i = I ∧ a = A ∧ k = K) := by unfold D3; omega
theorem d_done {I A : Nat} {P V : List Nat} (hI : Q.getD I default = (P, V)) (i a k : Nat) (h : Std Q row i a k) : D2 I (A + 1) i a k ↔ D3 I A V.length i a k := by
  unfold D2 D3
  constructor
  · rintro (c | ⟨c1, c2⟩)
    · exact .inl c
    · by_cases e : a = A
      · have := h.2.2.2.2
        rw [c1, hI] at this
        exact .inr (.inr ⟨c1, e, this⟩)
      · exact .inr (.inl ⟨c1, by omega⟩)
  · rintro (c | ⟨c1, c2⟩ | ⟨c1, c2, c3⟩)
    · exact .inl c
    · exact .inr ⟨c1, by omega⟩
    · exact .inr ⟨c1, by omega⟩
theorem d_out {I A : Nat} {P V : List Nat} (hI : Q.getD I default = (P, V)) (hA : row.length < A + P.length) (i a k : Nat) (h : Std Q row i a k) : D1 (I + 1) i a k ↔ D2 I A i a k := by
  unfold D1 D2
  constructor
  · intro c
    by_cases e : i = I
    · have := h.2.2.1
      rw [e, hI] at this
      exact .inr ⟨e, by simp only at this; omega⟩
    · exact .inl (by omega)
  · rintro (c | ⟨c, -⟩) <;> omega
theorem d_all (i a k : Nat) (h : Std Q row i a k) : True ↔ D1 Q.length i a k := by
  have := h.1
  unfold D1
  simp; omega
end
/-- The numbers below n that are told. -/
def pu (N l r : Nat) (od : Nat → Bool) (n : Nat) : List Nat := (List.range n).filter fun i => decide (l ≤ i) && decide (i + r ≤ N) && od i
theorem pu_succ (N l r : Nat) (od : Nat → Bool) (n : Nat) (h1 : l ≤ n) (h2 : n + r ≤ N) : pu N l r od (n + 1) = if od n = true then pu N l r od n ++ [n] else pu N l r od n := by
  unfold pu
  rw [List.range_succ, List.filter_append, List.filter_cons]
  have e : (decide (l ≤ n) && decide (n + r ≤ N) && od n) = od n := by rw [decide_eq_true h1, decide_eq_true h2]; rfl
  rw [e]
  cases od n <;> simp
theorem pu_start (N l r : Nat) (od : Nat → Bool) : pu N l r od l = [] := by
  unfold pu
  rw [List.filter_eq_nil_iff]
  intro i hi
  have : i < l := by simpa using hi
  rw [decide_eq_false (by omega)]; simp
theorem pu_more (N l r : Nat) (od : Nat → Bool) (n d : Nat) (h : N < n + r) : pu N l r od (n + d) = pu N l r od n := by
  induction d with
  | zero => rfl
  | succ d ih =>
    rw [← ih]
    show pu N l r od (n + d + 1) = _
    unfold pu
    rw [List.range_succ, List.filter_append, List.filter_cons, if_neg ?_]
    · simp
    · rw [decide_eq_false (show ¬ n + d + r ≤ N by omega)]; simp
theorem pu_end (N l r : Nat) (od : Nat → Bool) (n : Nat) (h : N < n + r) (hr : 1 ≤ r) : pu N l r od n = ptsOf N l r od := by
  show _ = pu N l r od N
  by_cases c : n ≤ N
  · have := pu_more N l r od n (N - n) h
    rw [show n + (N - n) = N by omega] at this
    exact this.symm
  · have := pu_more N l r od N (n - N) (by omega)
    rw [show N + (n - N) = n by omega] at this
    exact this
theorem pu_len (N l r : Nat) (od : Nat → Bool) (n : Nat) : (pu N l r od n).length ≤ n := by
  have := List.length_filter_le (fun i => decide (l ≤ i) && decide (i + r ≤ N) && od i) (List.range n)
  simpa [pu] using this
/-- The row that the document's Points ends with. -/
theorem pts_known {Q Y : PL} {L A O : List Nat} (h : KnO Y L true O) (hA : lookL Y L = some A) (l r : Nat) : PtsIs Q Y l r L (ptsOf L.length l r fun n => decide (O.getD n 0 % 2 = 1)) := by
  refine ⟨_, rfl, fun A' h' n hn => ?_, fun h' => by rw [hA] at h'; cases h'⟩
  rw [hA] at h'; injection h' with h'; subst h'
  rw [(h.2.2 A hA).2 n (by omega)]
  by_cases c : n ∈ A <;> simp [c]
theorem pts_levels {Q Y : PL} {L O : List Nat} (hN : lookL Y L = none) (h : LvO Q (46 :: (L ++ [46])) (fun _ _ _ => True) (L.length + 1) O) (l r : Nat) : PtsIs Q Y l r L (ptsOf L.length l r fun n => decide (O.getD n 0 % 2 = 1)) :=
  ⟨_, rfl, fun A' h' => (by rw [hN] at h'; cases h'), fun _ n hn => ⟨_, h.2 n (by omega), rfl⟩⟩
theorem pts_none {s : ByteArray} {Q Y : PL} {l r : Nat} (h : ∀ L, wordT s ≠ some (L, [])) : PtsS Q Y l r s [] := .inr ⟨h, rfl⟩
theorem word_all {s : ByteArray} (hf : fit s = true) {L : List Nat} (h : wst (rs s) (nR s) = some (L, [])) (h2 : nR s = 0 ∨ wfl s (nR s) = true) {Q Y : PL} {l r : Nat} {out : List Nat} (ho : PtsIs Q Y l r L out) : PtsS Q Y l r s out := by
  rcases h2 with h2 | h2
  · have hl : L = [] := by
      have := (wst_ok (rs s) (nR s) L [] (by rw [rs_len]; exact Nat.le_refl _) h).1
      exact List.eq_nil_of_length_eq_zero (by omega)
    have hw : wordT s = none := by
      have := (word_end hf).2
      refine this ?_
      unfold wfl; simp [h2]
    refine .inr ⟨fun L' e => (by rw [hw] at e; cases e), ?_⟩
    obtain ⟨od, e, -⟩ := ho
    rw [e, hl]; rfl
  · exact .inl ⟨L, by rw [(word_end hf).1 h2]; exact h, ho⟩
end Go.Proofs.YtflhefgmgdgffaaDoor
