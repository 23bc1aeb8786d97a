/-
  Plain: the places of a text ahead of which a hyphen may come, and the text with soft hyphens there.
-/
import Derived.Test.YtflhefgmgdgffaaDoorHyp
import Derived.Test.YtflhefgmgdgffaaDoorHza
namespace Go.Proofs.YtflhefgmgdgffaaDoor
open Go.RowKit Go.Maps
set_option linter.unusedSimpArgs false
set_option linter.unusedVariables false

theorem it_up (s : ByteArray) (i j : Nat) (h : i ≤ j) : it s i ≤ it s j := by
  induction j with
  | zero => have : i = 0 := by omega
            subst this; exact Nat.le_refl _
  | succ j ih =>
    by_cases c : i = j + 1
    · subst c; exact Nat.le_refl _
    · have := ih (by omega)
      simp only [it]; omega
theorem wst_nil (R : List Nat) : ∀ k L, wst R k = some (L, []) → L.length = k := by
  intro k
  induction k with
  | zero => intro L h; injection h with h; injection h with h1 h2; subst h1; rfl
  | succ k ih =>
    intro L h
    cases hq : wst R k with
    | none => rw [wst_none R k hq (k + 1) (by omega)] at h; cases h
    | some q =>
      obtain ⟨L0, A0⟩ := q
      have h' : wstep R k (L0, A0) = some (L, []) := by
        have e : wst R (k + 1) = (wst R k).bind (wstep R k) := rfl
        rw [hq] at e
        rw [← h, e]; rfl
      unfold wstep at h'
      split at h'
      · injection h' with h'; injection h' with e1 e2
        simp only at e1 e2
        subst e1; subst e2
        have := ih L0 hq
        simp; omega
      · split at h'
        · injection h' with h'; injection h' with e1 e2
          simp at e2
        · cases h'
/-- What is told of a text that is one word: it is right, and each number is one of its runes. -/
theorem pts_in {Q W : PL} {l r : Nat} {t : ByteArray} {out : List Nat} (h : PtsS Q W l r t out) : out.length ≤ 256 ∧ out.Pairwise (· < ·) ∧ ∀ n ∈ out, rt t = true ∧ n < nR t := by
  rcases h with ⟨L, h1, od, h2, -⟩ | ⟨-, h2⟩
  · have hf : fit t = true := by
      cases c : fit t with
      | true => rfl
      | false => unfold wordT at h1; rw [c] at h1; cases h1
    have hrt : rt t = true := by unfold fit at hf; simp at hf; exact hf.2
    have hw : word (rs t) = some (L, []) := by unfold wordT at h1; rw [if_pos hf] at h1; exact h1
    have hL : L.length = nR t := by
      unfold word at hw
      split at hw
      · have := wst_nil _ _ _ hw
        rw [rs_len] at this; exact this
      · cases hw
    have h256 := (wordT_ok h1).1
    subst h2
    refine ⟨?_, ?_, fun n hn => ⟨hrt, ?_⟩⟩
    · have := List.length_filter_le (fun i => decide (l ≤ i) && decide (i + r ≤ L.length) && od i) (List.range L.length)
      unfold ptsOf
      rw [List.length_range] at this
      omega
    · unfold ptsOf
      exact List.Pairwise.filter _ List.pairwise_lt_range
    · unfold ptsOf at hn
      simp at hn
      omega
  · subst h2; simp
/-- The word from one place up to another. -/
def wtx (s : ByteArray) (p : Nat × Nat) : ByteArray := s.extract p.1 p.2
/-- What is told is a function of the text. -/
theorem pts_fun (Q W : PL) (l r : Nat) : ∃ f : ByteArray → List Nat, ∀ t out, PtsS Q W l r t out → out = f t :=
  ⟨fun t => Classical.epsilon (PtsS Q W l r t), fun t out h => h.uniq (Classical.epsilon_spec ⟨_, h⟩)⟩
def plw (f : ByteArray → List Nat) (s : ByteArray) (p : Nat × Nat) : List Nat := (f (wtx s p)).map fun n => p.1 + it (wtx s p) n
/-- The places of some words. -/
def plc (f : ByteArray → List Nat) (s : ByteArray) (P : PR) : List Nat := P.flatMap (plw f s)
theorem plc_nil (f : ByteArray → List Nat) (s : ByteArray) : plc f s [] = [] := rfl
theorem plc_snoc (f : ByteArray → List Nat) (s : ByteArray) (P : PR) (p : Nat × Nat) : plc f s (P ++ [p]) = plc f s P ++ plw f s p := by
  unfold plc; simp
theorem plc_same {f g : ByteArray → List Nat} {s : ByteArray} : ∀ {P : PR}, (∀ p ∈ P, f (wtx s p) = g (wtx s p)) → plc f s P = plc g s P := by
  intro P
  induction P with
  | nil => intro _; rfl
  | cons p P ih =>
    intro h
    have h1 := ih (fun q hq => h q (by simp [hq]))
    unfold plc at h1 ⊢
    rw [List.flatMap_cons, List.flatMap_cons, h1]
    unfold plw
    rw [h p (by simp)]
/-- The words of which it is known what is told. -/
def PcOk (Q W : PL) (l r : Nat) (f : ByteArray → List Nat) (s : ByteArray) (P : PR) : Prop := ∀ p ∈ P, PtsS Q W l r (wtx s p) (f (wtx s p))
theorem pcok_snoc {Q W : PL} {l r : Nat} {f : ByteArray → List Nat} {s : ByteArray} {P : PR} {p : Nat × Nat} {out : List Nat} (hf : ∀ t out, PtsS Q W l r t out → out = f t) (h : PcOk Q W l r f s P) (hp : PtsS Q W l r (wtx s p) out) : PcOk Q W l r f s (P ++ [p]) := by
  intro q hq
  rcases List.mem_append.1 hq with c | c
  · exact h q c
  · simp at c; subst c
    rw [← hf _ _ hp]; exact hp
theorem plw_len {Q W : PL} {l r : Nat} {f : ByteArray → List Nat} {s : ByteArray} {p : Nat × Nat} (hp : PtsS Q W l r (wtx s p) (f (wtx s p))) : (plw f s p).length ≤ 256 := by
  unfold plw; rw [List.length_map]; exact (pts_in hp).1
theorem plc_len {Q W : PL} {l r : Nat} {f : ByteArray → List Nat} {s : ByteArray} : ∀ {P : PR}, PcOk Q W l r f s P → (plc f s P).length ≤ P.length * 256 := by
  intro P
  induction P with
  | nil => intro _; simp [plc]
  | cons p P ih =>
    intro h
    have h1 := ih (fun q hq => h q (by simp [hq]))
    have h2 := plw_len (h p (by simp))
    unfold plc at h1 ⊢
    rw [List.flatMap_cons, List.length_append, List.length_cons]
    omega
/-- One word behind the other. -/
theorem ws_rise (s : ByteArray) : ∀ k, k ≤ nR s → ((ws s k).1.Pairwise fun a b => a.2 ≤ b.1) ∧ ∀ c, (ws s k).2 = some c → ∀ x ∈ (ws s k).1, x.2 ≤ c := by
  intro k
  induction k with
  | zero => intro _; exact ⟨by simp [ws], fun c hc => by simp [ws] at hc⟩
  | succ k ih =>
    intro hk
    have ih := ih (by omega)
    have ok := ws_ok s k (by omega)
    obtain ⟨F, o, h⟩ : ∃ F o, ws s k = (F, o) := ⟨_, _, rfl⟩
    rw [h] at ih ok
    cases hl : ltr (rn s k) with
    | true =>
      cases o with
      | none =>
        rw [ws_go s k h hl]
        exact ⟨ih.1, fun c hc x hx => by injection hc with hc; have := (ok.1 x hx).2; omega⟩
      | some c =>
        rw [ws_in s k h hl]
        exact ih
    | false =>
      cases o with
      | none =>
        rw [ws_out s k h hl]
        exact ⟨ih.1, fun c hc => by cases hc⟩
      | some c =>
        rw [ws_end s k h hl]
        refine ⟨?_, fun c hc => by cases hc⟩
        rw [List.pairwise_append]
        exact ⟨ih.1, by simp, fun a ha b hb => by simp at hb; subst hb; exact ih.2 c rfl a ha⟩
theorem wds_rise (s : ByteArray) : (Wds s).Pairwise fun a b => a.2 ≤ b.1 := by
  have h := ws_rise s (nR s) (Nat.le_refl _)
  unfold Wds
  obtain ⟨F, o, hw⟩ : ∃ F o, ws s (nR s) = (F, o) := ⟨_, _, rfl⟩
  rw [hw] at h ⊢
  cases o with
  | none => rw [wsl_none]; exact h.1
  | some c =>
    rw [wsl_some, List.pairwise_append]
    exact ⟨h.1, by simp, fun a ha b hb => by simp at hb; subst hb; exact h.2 c rfl a ha⟩
theorem wtx_size (s : ByteArray) (p : Nat × Nat) (h : p.1 ≤ p.2 ∧ p.2 ≤ s.size) : (wtx s p).size = p.2 - p.1 := by
  unfold wtx; rw [ByteArray.size_extract]; omega
theorem plw_in {f : ByteArray → List Nat} {s : ByteArray} {p : Nat × Nat} (hp : p.1 ≤ p.2 ∧ p.2 ≤ s.size) : ∀ x ∈ plw f s p, p.1 ≤ x ∧ x ≤ p.2 := by
  intro x hx
  unfold plw at hx
  obtain ⟨n, -, rfl⟩ := List.mem_map.1 hx
  have := it_le (wtx s p) n
  rw [wtx_size s p hp] at this
  omega
theorem plw_rise {Q W : PL} {l r : Nat} {f : ByteArray → List Nat} {s : ByteArray} {p : Nat × Nat} (h : PtsS Q W l r (wtx s p) (f (wtx s p))) : (plw f s p).Pairwise (· ≤ ·) := by
  unfold plw
  rw [List.pairwise_map]
  refine (pts_in h).2.1.imp ?_
  intro a b hab
  have := it_up (wtx s p) a b (by omega)
  omega
theorem plc_rise {Q W : PL} {l r : Nat} {f : ByteArray → List Nat} {s : ByteArray} : ∀ {P : PR}, PcOk Q W l r f s P → (∀ p ∈ P, p.1 ≤ p.2 ∧ p.2 ≤ s.size) → (P.Pairwise fun a b => a.2 ≤ b.1) → (plc f s P).Pairwise (· ≤ ·) ∧ ∀ x ∈ plc f s P, x ≤ s.size ∧ ∃ p ∈ P, p.1 ≤ x ∧ x ≤ p.2 := by
  intro P
  induction P with
  | nil => intro _ _ _; simp [plc]
  | cons p P ih =>
    intro h hb hr
    rw [List.pairwise_cons] at hr
    have h1 := ih (fun q hq => h q (by simp [hq])) (fun q hq => hb q (by simp [hq])) hr.2
    have h2 := plw_rise (h p (by simp))
    have hp := hb p (by simp)
    have h3 := plw_in (f := f) hp
    unfold plc at h1 ⊢
    rw [List.flatMap_cons]
    refine ⟨?_, fun x hx => ?_⟩
    · rw [List.pairwise_append]
      refine ⟨h2, h1.1, fun a ha b hb' => ?_⟩
      obtain ⟨q, hq, hq1, hq2⟩ := (h1.2 b hb').2
      have := (h3 a ha).2
      have := hr.1 q hq
      omega
    · rcases List.mem_append.1 hx with c | c
      · have := h3 x c
        exact ⟨by omega, p, by simp, this⟩
      · obtain ⟨g1, q, hq, hq2⟩ := h1.2 x c
        exact ⟨g1, q, by simp [hq], hq2⟩
/-- The places of a text's words rise, and lie within it. -/
theorem plc_text {Q W : PL} {l r : Nat} {f : ByteArray → List Nat} {s : ByteArray} (h : PcOk Q W l r f s (Wds s)) : (plc f s (Wds s)).Pairwise (· ≤ ·) ∧ ∀ x ∈ plc f s (Wds s), x ≤ s.size := by
  have := plc_rise h (wds_ok s) (wds_rise s)
  exact ⟨this.1, fun x hx => (this.2 x hx).1⟩
/-- Places that rise within a text. -/
def Rise (s : ByteArray) (P : List Nat) : Prop := P.Pairwise (· ≤ ·) ∧ ∀ x ∈ P, x ≤ s.size
theorem rise_nil (s : ByteArray) : Rise s [] := ⟨by simp, by simp⟩
/-- How far the text is written when k of the places are through. -/
def fr (P : List Nat) : Nat → Nat
  | 0 => 0
  | k + 1 => P.getD k 0
theorem fr_le {s : ByteArray} {P : List Nat} (h : Rise s P) (k : Nat) (hk : k < P.length) : fr P k ≤ P.getD k 0 ∧ P.getD k 0 ≤ s.size := by
  refine ⟨?_, h.2 _ (getD_mem P k hk)⟩
  cases k with
  | zero => exact Nat.zero_le _
  | succ k =>
    have := List.pairwise_iff_getElem.1 h.1 k (k + 1) (by omega) hk (by omega)
    simp only [fr, List.getD_eq_getElem?_getD, List.getElem?_eq_getElem hk, List.getElem?_eq_getElem (show k < P.length by omega), Option.getD_some]
    exact this
theorem fr_end {s : ByteArray} {P : List Nat} (h : Rise s P) (k : Nat) (hk : k ≤ P.length) : fr P k ≤ s.size := by
  cases k with
  | zero => exact Nat.zero_le _
  | succ k => exact h.2 _ (getD_mem P k (by omega))
def soft : ByteArray := ⟨#[194, 173]⟩
/-- The text with soft hyphens at the first k places, as far as the last of them. -/
def pw (s : ByteArray) (P : List Nat) : Nat → ByteArray
  | 0 => ByteArray.empty
  | k + 1 => pw s P k ++ s.extract (fr P k) (P.getD k 0) ++ soft
theorem pw_size {s : ByteArray} {P : List Nat} (h : Rise s P) : ∀ k, k ≤ P.length → (pw s P k).size = fr P k + 2 * k := by
  intro k
  induction k with
  | zero => intro _; rfl
  | succ k ih =>
    intro hk
    have h1 := ih (by omega)
    have h2 := fr_le h k (by omega)
    simp only [pw, ByteArray.size_append, ByteArray.size_extract, h1]
    have : soft.size = 2 := rfl
    rw [this]
    show _ = P.getD k 0 + 2 * (k + 1)
    omega
/-- The text with soft hyphens at its places. -/
def put17 (s : ByteArray) (P : List Nat) : ByteArray := pw s P P.length ++ s.extract (fr P P.length) s.size
end Go.Proofs.YtflhefgmgdgffaaDoor
