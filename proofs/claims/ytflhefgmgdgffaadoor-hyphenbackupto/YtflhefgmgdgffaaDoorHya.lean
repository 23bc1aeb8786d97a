/-
  Plain: letters and small letters, patterns and words with hyphens read rune by rune, the last of several that counts, the greatest level at a place; no program in it.
-/
import Derived.Test.YtflhefgmgdgffaaDoorUa
namespace Go.Proofs.YtflhefgmgdgffaaDoor
set_option linter.unusedSimpArgs false
set_option linter.unusedVariables false

/-- The small one of a great letter. -/
def lowr (r : Nat) : Nat := if 65 ≤ r ∧ r ≤ 90 then r + 32 else r
/-- Can a rune be in a word? -/
def ltr (r : Nat) : Bool := (decide (97 ≤ lowr r) && decide (lowr r ≤ 122)) || (decide (192 ≤ r) && !(r == 215 || r == 247 || r == 8203 || r == 8208 || r == 8232 || r == 8239 || r == 8288 || r == 65279))
def dig (r : Nat) : Bool := decide (48 ≤ r) && decide (r ≤ 57)
theorem low_cases (r : Nat) : ((65 ≤ r ∧ r ≤ 90) ∧ lowr r = r + 32) ∨ (¬ (65 ≤ r ∧ r ≤ 90) ∧ lowr r = r) := by
  unfold lowr
  by_cases c : 65 ≤ r ∧ r ≤ 90
  · exact .inl ⟨c, if_pos c⟩
  · exact .inr ⟨c, if_neg c⟩
theorem low_low (r : Nat) : lowr (lowr r) = lowr r := by
  rcases low_cases r with ⟨h, e⟩ | ⟨h, e⟩
  · rw [e]; unfold lowr; rw [if_neg (by omega)]
  · rw [e, e]
theorem ltr_iff (r : Nat) : ltr r = true ↔ (97 ≤ lowr r ∧ lowr r ≤ 122) ∨ (192 ≤ r ∧ r ≠ 215 ∧ r ≠ 247 ∧ r ≠ 8203 ∧ r ≠ 8208 ∧ r ≠ 8232 ∧ r ≠ 8239 ∧ r ≠ 8288 ∧ r ≠ 65279) := by
  unfold ltr
  simp [and_assoc]
theorem ltr_low (r : Nat) : ltr (lowr r) = ltr r := by
  rw [Bool.eq_iff_iff, ltr_iff, ltr_iff, low_low]
  rcases low_cases r with ⟨h, e⟩ | ⟨h, e⟩ <;> rw [e] <;> omega
theorem ltr_no (r : Nat) (h : r < 65) : ltr r = false := by
  cases c : ltr r
  · rfl
  · rw [ltr_iff] at c
    rcases low_cases r with ⟨h', e⟩ | ⟨h', e⟩ <;> rw [e] at c <;> omega
theorem dig_iff (r : Nat) : dig r = true ↔ 48 ≤ r ∧ r ≤ 57 := by unfold dig; simp
theorem dig_no (r : Nat) (h : ¬ (48 ≤ r ∧ r ≤ 57)) : dig r = false := by
  cases c : dig r
  · rfl
  · exact absurd ((dig_iff r).1 c) h

theorem getD_mem (R : List Nat) (k : Nat) (h : k < R.length) : R.getD k 0 ∈ R := by
  simp [List.getD_eq_getElem?_getD, h]

/-- A pattern so far: its letters and points, its levels, whether a letter was there. -/
structure Pt where
  L : List Nat
  V : List Nat
  m : Bool
def pstep (R : List Nat) (k : Nat) (p : Pt) : Option Pt :=
  if dig (R.getD k 0) = true then (if k ≠ 0 ∧ dig (R.getD (k - 1) 0) = true then none else some ⟨p.L, p.V.set p.L.length (R.getD k 0 - 48), p.m⟩)
  else if R.getD k 0 = 46 then (if k = 0 ∨ k + 1 = R.length then some ⟨p.L ++ [R.getD k 0], p.V ++ [0], p.m⟩ else none)
  else if ltr (R.getD k 0) = true ∧ lowr (R.getD k 0) = R.getD k 0 then some ⟨p.L ++ [R.getD k 0], p.V ++ [0], true⟩
  else none
def pst (R : List Nat) : Nat → Option Pt
  | 0 => some ⟨[], [0], false⟩
  | k + 1 => (pst R k).bind (pstep R k)
/-- A pattern's letters and points, and its levels. -/
def pat (R : List Nat) : Option (List Nat × List Nat) := (pst R R.length).bind fun p => if p.m = true then some (p.L, p.V) else none
theorem pst_none (R : List Nat) (k : Nat) (h : pst R k = none) : ∀ n, k ≤ n → pst R n = none := by
  intro n
  induction n with
  | zero => intro c; have : k = 0 := by omega
            subst this; exact h
  | succ n ih =>
    intro c
    by_cases e : k = n + 1
    · subst e; exact h
    · show (pst R n).bind _ = none
      rw [ih (by omega)]; rfl
theorem pat_none (R : List Nat) (k : Nat) (hk : k ≤ R.length) (h : pst R k = none) : pat R = none := by
  unfold pat; rw [pst_none R k h _ hk]; rfl
theorem pst_ok (R : List Nat) : ∀ k p, k ≤ R.length → pst R k = some p → p.V.length = p.L.length + 1 ∧ p.L.length ≤ k ∧ (∀ v ∈ p.V, v ≤ 9) ∧ (∀ c ∈ p.L, c ∈ R) ∧ (p.m = true → p.L ≠ []) := by
  intro k
  induction k with
  | zero => intro p _ h; injection h with h; subst h; simp
  | succ k ih =>
    intro p hk h
    cases hq : pst R k with
    | none => rw [pst_none R k hq (k + 1) (by omega)] at h; cases h
    | some q =>
      obtain ⟨h1, h2, h3, h4, h5⟩ := ih q (by omega) hq
      have hm := getD_mem R k (by omega)
      have h' : pstep R k q = some p := by
        have e : pst R (k + 1) = (pst R k).bind (pstep R k) := rfl
        rw [hq] at e
        rw [← h, e]; rfl
      unfold pstep at h'
      generalize R.getD k 0 = r at *
      split at h'
      · next hd =>
        rw [dig_iff] at hd
        split at h'
        · cases h'
        · injection h' with h'; subst h'
          refine ⟨by simpa using h1, by simp; omega, ?_, h4, h5⟩
          intro v hv
          rcases List.mem_or_eq_of_mem_set hv with c | c
          · exact h3 v c
          · omega
      · split at h'
        · split at h'
          · injection h' with h'; subst h'
            refine ⟨by simp [h1], by simp; omega, ?_, ?_, by simp⟩
            · intro v hv; simp at hv; rcases hv with c | c
              · exact h3 v c
              · omega
            · intro c hc; simp at hc; rcases hc with c' | c'
              · exact h4 c c'
              · rw [c']; exact hm
          · cases h'
        · split at h'
          · injection h' with h'; subst h'
            refine ⟨by simp [h1], by simp; omega, ?_, ?_, by simp⟩
            · intro v hv; simp at hv; rcases hv with c | c
              · exact h3 v c
              · omega
            · intro c hc; simp at hc; rcases hc with c' | c'
              · exact h4 c c'
              · rw [c']; exact hm
          · cases h'
theorem pat_ok (R : List Nat) (P V : List Nat) (h : pat R = some (P, V)) : V.length = P.length + 1 ∧ P.length ≤ R.length ∧ (∀ v ∈ V, v ≤ 9) ∧ (∀ c ∈ P, c ∈ R) ∧ P ≠ [] := by
  unfold pat at h
  cases hp : pst R R.length with
  | none => rw [hp] at h; cases h
  | some p =>
    rw [hp] at h
    simp only [Option.bind_some] at h
    split at h
    · next hm =>
      injection h with h; injection h with h1 h2
      subst h1; subst h2
      obtain ⟨a, b, c, d, e⟩ := pst_ok R _ p (Nat.le_refl _) hp
      exact ⟨a, b, c, d, e hm⟩
    · cases h

/-- A word so far: its small letters, and how many are ahead of each hyphen. -/
def wstep (R : List Nat) (k : Nat) (p : List Nat × List Nat) : Option (List Nat × List Nat) :=
  if ltr (R.getD k 0) = true then some (p.1 ++ [lowr (R.getD k 0)], p.2)
  else if R.getD k 0 = 45 ∧ k ≠ 0 ∧ R.getD (k - 1) 0 ≠ 45 then some (p.1, p.2 ++ [p.1.length])
  else none
def wst (R : List Nat) : Nat → Option (List Nat × List Nat)
  | 0 => some ([], [])
  | k + 1 => (wst R k).bind (wstep R k)
def word (R : List Nat) : Option (List Nat × List Nat) := if R.length ≠ 0 ∧ R.getD (R.length - 1) 0 ≠ 45 then wst R R.length else none
theorem wst_none (R : List Nat) (k : Nat) (h : wst R k = none) : ∀ n, k ≤ n → wst R n = none := by
  intro n
  induction n with
  | zero => intro c; have : k = 0 := by omega
            subst this; exact h
  | succ n ih =>
    intro c
    by_cases e : k = n + 1
    · subst e; exact h
    · show (wst R n).bind _ = none
      rw [ih (by omega)]; rfl
theorem word_none (R : List Nat) (k : Nat) (hk : k ≤ R.length) (h : wst R k = none) : word R = none := by
  unfold word; split
  · exact wst_none R k h _ hk
  · rfl
theorem wst_ok (R : List Nat) : ∀ k L A, k ≤ R.length → wst R k = some (L, A) → L.length ≤ k ∧ A.length ≤ k ∧ (0 < k → L ≠ []) ∧ A.Pairwise (· < ·) ∧ (∀ a ∈ A, a ≤ L.length) ∧ ((k = 0 ∨ R.getD (k - 1) 0 ≠ 45) → ∀ a ∈ A, a < L.length) ∧ (∀ c ∈ L, ltr c = true ∧ lowr c = c ∧ ∃ r ∈ R, c = lowr r) := by
  intro k
  induction k with
  | zero => intro L A _ h; injection h with h; injection h with h1 h2; subst h1; subst h2; simp
  | succ k ih =>
    intro L A hk h
    cases hq : wst R k with
    | none => rw [wst_none R k hq (k + 1) (by omega)] at h; cases h
    | some q =>
      obtain ⟨L0, A0⟩ := q
      obtain ⟨h1, h2, h3, h4, h5, h6, h7⟩ := ih L0 A0 (by omega) hq
      have hm := getD_mem R k (by omega)
      have h' : wstep R k (L0, A0) = some (L, A) := by
        have e : wst R (k + 1) = (wst R k).bind (wstep R k) := rfl
        rw [hq] at e
        rw [← h, e]; rfl
      unfold wstep at h'
      simp only [Nat.add_sub_cancel]
      generalize hr : R.getD k 0 = r at *
      split at h'
      · next hl =>
        injection h' with h'; injection h' with e1 e2
        simp only at e1 e2
        subst e1; subst e2
        refine ⟨by simp; omega, by omega, by simp, h4, ?_, ?_, ?_⟩
        · intro a ha; have := h5 a ha; simp; omega
        · intro _ a ha; have := h5 a ha; simp; omega
        · intro c hc
          simp at hc
          rcases hc with hc | hc
          · exact h7 c hc
          · subst hc; exact ⟨by rw [ltr_low]; exact hl, low_low r, r, hm, rfl⟩
      · split at h'
        · next hl hh =>
          injection h' with h'; injection h' with e1 e2
          simp only at e1 e2
          subst e1; subst e2
          have h6' := h6 (.inr hh.2.2)
          refine ⟨by omega, by simp; omega, fun _ => h3 (by omega), ?_, ?_, ?_, h7⟩
          · rw [List.pairwise_append]
            exact ⟨h4, by simp, fun a ha b hb => by simp at hb; rw [hb]; exact h6' a ha⟩
          · intro a ha; simp at ha; rcases ha with ha | ha
            · exact h5 a ha
            · omega
          · intro c
            rcases c with c | c
            · omega
            · exact absurd hh.1 c
        · cases h'
theorem word_ok (R L A : List Nat) (h : word R = some (L, A)) : L.length ≤ R.length ∧ L ≠ [] ∧ A.Pairwise (· < ·) ∧ (∀ a ∈ A, a < L.length) ∧ (∀ c ∈ L, ltr c = true ∧ lowr c = c ∧ ∃ r ∈ R, c = lowr r) := by
  unfold word at h
  split at h
  · next hc =>
    obtain ⟨h1, h2, h3, h4, h5, h6, h7⟩ := wst_ok R _ L A (Nat.le_refl _) h
    exact ⟨h1, h3 (by omega), h4, h6 (.inr hc.2), h7⟩
  · cases h

/-- Of several of one name the last. -/
def lookL {α : Type} : List (List Nat × α) → List Nat → Option α
  | [], _ => none
  | e :: W, x => match lookL W x with
    | some v => some v
    | none => if e.1 = x then some e.2 else none
theorem lookL_snoc {α : Type} (W : List (List Nat × α)) (e : List Nat × α) (x : List Nat) : lookL (W ++ [e]) x = if e.1 = x then some e.2 else lookL W x := by
  induction W with
  | nil => simp [lookL]
  | cons a W ih =>
    simp only [List.cons_append, lookL, ih]
    by_cases c : e.1 = x <;> simp [c]
theorem lookL_iff {α : Type} (W : List (List Nat × α)) (x : List Nat) (v : α) : lookL W x = some v ↔ ∃ i : Nat, W[i]? = some (x, v) ∧ ∀ (k : Nat) (e : List Nat × α), i < k → W[k]? = some e → e.1 ≠ x := by
  induction W generalizing v with
  | nil => simp [lookL]
  | cons a W ih =>
    simp only [lookL]
    cases hl : lookL W x with
    | some u =>
      have hu := (ih u).1 hl
      simp only [Option.some.injEq]
      constructor
      · intro e; subst e
        obtain ⟨i, h1, h2⟩ := hu
        refine ⟨i + 1, by simpa using h1, fun k e hk he => ?_⟩
        obtain ⟨k', rfl⟩ : ∃ k', k = k' + 1 := ⟨k - 1, by omega⟩
        exact h2 k' e (by omega) (by simpa using he)
      · rintro ⟨i, h1, h2⟩
        obtain ⟨i0, g1, g2⟩ := hu
        cases i with
        | zero => exact absurd rfl (h2 (i0 + 1) _ (by omega) (by simpa using g1))
        | succ i =>
          have := (ih v).2 ⟨i, by simpa using h1, fun k e hk he => h2 (k + 1) e (by omega) (by simpa using he)⟩
          rw [hl] at this; injection this
    | none =>
      have hno : ∀ (v : α) (i : Nat), W[i]? = some (x, v) → ∃ (k : Nat) (e : List Nat × α), i < k ∧ W[k]? = some e ∧ e.1 = x := by
        intro v i h
        apply Classical.byContradiction
        intro c
        have := (ih v).2 ⟨i, h, fun k e hk he hx => c ⟨k, e, hk, he, hx⟩⟩
        rw [hl] at this; cases this
      have hno' : ∀ (n k : Nat) (e : List Nat × α), W.length ≤ k + n → W[k]? = some e → e.1 ≠ x := by
        intro n
        induction n with
        | zero => intro k e hk he; rw [List.getElem?_eq_none (by omega)] at he; cases he
        | succ n ihn =>
          intro k e hk he hx
          obtain ⟨k', e', g1, g2, g3⟩ := hno e.2 k (by rw [he, ← hx])
          exact ihn k' e' (by omega) g2 g3
      by_cases c : a.1 = x
      · simp only [c, if_true, Option.some.injEq]
        constructor
        · intro e; subst e
          refine ⟨0, by simp [← c], fun k e hk he => ?_⟩
          obtain ⟨k', rfl⟩ : ∃ k', k = k' + 1 := ⟨k - 1, by omega⟩
          exact hno' W.length k' e (by omega) (by simpa using he)
        · rintro ⟨i, h1, h2⟩
          cases i with
          | zero => simp at h1; rw [h1]
          | succ i => exact absurd rfl (hno' W.length i _ (by omega) (by simpa using h1))
      · simp only [c, if_false]
        constructor
        · intro e; cases e
        · rintro ⟨i, h1, h2⟩
          cases i with
          | zero => simp at h1; exact absurd (by rw [h1]) c
          | succ i => exact absurd rfl (hno' W.length i _ (by omega) (by simpa using h1))
theorem lookL_mem {α : Type} (W : List (List Nat × α)) (x : List Nat) (v : α) (h : lookL W x = some v) : (x, v) ∈ W := by
  obtain ⟨i, h1, _⟩ := (lookL_iff W x v).1 h
  exact List.mem_of_getElem? h1
theorem lookL_map {α β : Type} (f : α → β) (W : List (List Nat × α)) (x : List Nat) : lookL (W.map fun e => (e.1, f e.2)) x = (lookL W x).map f := by
  induction W with
  | nil => rfl
  | cons a W ih =>
    simp only [List.map_cons, lookL, ih]
    cases lookL W x with
    | some u => rfl
    | none => simp only [Option.map_none]; split <;> rfl
theorem lookL_none {α : Type} (W : List (List Nat × α)) (x : List Nat) : lookL W x = none ↔ ∀ e ∈ W, e.1 ≠ x := by
  induction W with
  | nil => simp [lookL]
  | cons a W ih =>
    simp only [lookL, List.mem_cons, forall_eq_or_imp]
    cases hl : lookL W x with
    | some u =>
      simp only [reduceCtorEq, false_iff, not_and]
      intro _ h
      rw [ih.2 h] at hl; cases hl
    | none =>
      rw [ih] at hl
      by_cases c : a.1 = x
      · simp [c]
      · simp [c]; exact fun a b h => hl (a, b) h

/-- The numbers that may be told. -/
def ptsOf (n l r : Nat) (od : Nat → Bool) : List Nat := (List.range n).filter fun i => decide (l ≤ i) && decide (i + r ≤ n) && od i
theorem ptsOf_same (n l r : Nat) (f g : Nat → Bool) (h : ∀ i, i < n → f i = g i) : ptsOf n l r f = ptsOf n l r g := by
  unfold ptsOf
  apply List.filter_congr
  intro i hi
  rw [h i (by simpa using hi)]
/-- A rising row is the numbers that it has. -/
theorem rise_filter (A : List Nat) (h : A.Pairwise (· < ·)) : ∀ n, (∀ a ∈ A, a < n) → (List.range n).filter (fun i => decide (i ∈ A)) = A := by
  suffices ∀ n (B : List Nat), B.Pairwise (· < ·) → (∀ a ∈ B, a < n) → (List.range n).filter (fun i => decide (i ∈ B)) = B from fun n hn => this n A h hn
  intro n
  induction n with
  | zero =>
    intro B _ hn
    cases B with
    | nil => rfl
    | cons a B => exact absurd (hn a (by simp)) (by omega)
  | succ n ih =>
    intro B hB hn
    rw [List.range_succ, List.filter_append]
    by_cases c : n ∈ B
    · obtain ⟨C, D, rfl⟩ := List.append_of_mem c
      rw [List.pairwise_append, List.pairwise_cons] at hB
      have hD : D = [] := by
        cases D with
        | nil => rfl
        | cons d D =>
          have := hB.2.1.1 d (by simp)
          have := hn d (by simp)
          omega
      subst hD
      have hC : ∀ a ∈ C, a < n := fun a ha => hB.2.2 a ha n (by simp)
      have e : (List.range n).filter (fun i => decide (i ∈ C ++ [n])) = (List.range n).filter (fun i => decide (i ∈ C)) := by
        apply List.filter_congr
        intro i hi
        have : i < n := by simpa using hi
        simp; omega
      rw [e, ih C hB.1 hC]
      simp
    · have hC : ∀ a ∈ B, a < n := fun a ha => by
        have := hn a ha
        have : a ≠ n := fun e => c (e ▸ ha)
        omega
      rw [ih B hB hC]
      simp [c]
theorem ptsOf_rise (A : List Nat) (h : A.Pairwise (· < ·)) (n l r : Nat) (hA : ∀ a ∈ A, a < n) : A.filter (fun i => decide (l ≤ i) && decide (i + r ≤ n)) = ptsOf n l r (fun i => decide (i ∈ A)) := by
  have e := rise_filter A h n hA
  unfold ptsOf
  conv => lhs; rw [← e]
  rw [List.filter_filter]

/-- The greatest of some numbers, or 0. -/
def Mx (S : Nat → Prop) (x : Nat) : Prop := (x = 0 ∨ S x) ∧ ∀ v, S v → v ≤ x
theorem Mx.uniq {S : Nat → Prop} {x y : Nat} (h : Mx S x) (g : Mx S y) : x = y := by
  have a : x ≤ y := by
    rcases h.1 with c | c
    · omega
    · exact g.2 _ c
  have b : y ≤ x := by
    rcases g.1 with c | c
    · omega
    · exact h.2 _ c
  omega
theorem Mx.add {S S' : Nat → Prop} {x v : Nat} (h : Mx S x) (e : ∀ u, S' u ↔ S u ∨ u = v) : Mx S' (max x v) := by
  constructor
  · by_cases c : x ≤ v
    · right; rw [Nat.max_eq_right c, e]; exact .inr rfl
    · rw [Nat.max_eq_left (by omega), e]
      rcases h.1 with k | k
      · omega
      · exact .inr (.inl k)
  · intro u hu
    rcases (e u).1 hu with c | c
    · have := h.2 u c; omega
    · omega
theorem Mx.same {S S' : Nat → Prop} {x : Nat} (h : Mx S x) (e : ∀ u, S' u ↔ S u) : Mx S' x :=
  ⟨h.1.imp id (fun c => (e _).2 c), fun v hv => h.2 v ((e v).1 hv)⟩
theorem Mx.none {S : Nat → Prop} (h : ∀ u, ¬ S u) : Mx S 0 := ⟨.inl rfl, fun v hv => absurd hv (h v)⟩

/-- Does a pattern count: has none behind it the same letters? -/
def cnts (Q : List (List Nat × List Nat)) (i : Nat) : Prop := ∀ k, i < k → k < Q.length → (Q.getD k default).1 ≠ (Q.getD i default).1
/-- Pattern number i stands at a place of a row, as one of those that count; k: a place in it. -/
def Std (Q : List (List Nat × List Nat)) (row : List Nat) (i a k : Nat) : Prop := i < Q.length ∧ cnts Q i ∧ a + (Q.getD i default).1.length ≤ row.length ∧ (row.drop a).take (Q.getD i default).1.length = (Q.getD i default).1 ∧ k < (Q.getD i default).2.length
/-- A level at a place: of the patterns, places and levels that C names. -/
def Hit (Q : List (List Nat × List Nat)) (row : List Nat) (C : Nat → Nat → Nat → Prop) (j v : Nat) : Prop := ∃ i a k, Std Q row i a k ∧ C i a k ∧ j = a + k ∧ v = (Q.getD i default).2.getD k 0
theorem hit_add {Q : List (List Nat × List Nat)} {row : List Nat} {C C' : Nat → Nat → Nat → Prop} {i0 a0 k0 : Nat} (hs : Std Q row i0 a0 k0) (h : ∀ i a k, Std Q row i a k → (C' i a k ↔ C i a k ∨ (i = i0 ∧ a = a0 ∧ k = k0))) {j x : Nat} (hx : Mx (Hit Q row C j) x) :
    (j = a0 + k0 → Mx (Hit Q row C' j) (max x ((Q.getD i0 default).2.getD k0 0))) ∧ (j ≠ a0 + k0 → Mx (Hit Q row C' j) x) := by
  constructor
  · intro hj
    refine hx.add (fun u => ?_)
    constructor
    · rintro ⟨i, a, k, g1, g2, g3, g4⟩
      rcases (h i a k g1).1 g2 with c | ⟨c1, c2, c3⟩
      · exact .inl ⟨i, a, k, g1, c, g3, g4⟩
      · subst c1; subst c3; exact .inr g4
    · rintro (⟨i, a, k, g1, g2, g3, g4⟩ | e)
      · exact ⟨i, a, k, g1, (h i a k g1).2 (.inl g2), g3, g4⟩
      · exact ⟨i0, a0, k0, hs, (h _ _ _ hs).2 (.inr ⟨rfl, rfl, rfl⟩), hj, e⟩
  · intro hj
    refine hx.same (fun u => ?_)
    constructor
    · rintro ⟨i, a, k, g1, g2, g3, g4⟩
      rcases (h i a k g1).1 g2 with c | ⟨c1, c2, c3⟩
      · exact ⟨i, a, k, g1, c, g3, g4⟩
      · exact absurd (by rw [g3, c2, c3]) hj
    · rintro ⟨i, a, k, g1, g2, g3, g4⟩
      exact ⟨i, a, k, g1, (h i a k g1).2 (.inl g2), g3, g4⟩
theorem hit_same {Q : List (List Nat × List Nat)} {row : List Nat} {C C' : Nat → Nat → Nat → Prop} (h : ∀ i a k, Std Q row i a k → (C' i a k ↔ C i a k)) {j x : Nat} (hx : Mx (Hit Q row C j) x) : Mx (Hit Q row C' j) x := by
  refine hx.same (fun u => ?_)
  constructor
  · rintro ⟨i, a, k, g1, g2, g3, g4⟩
    exact ⟨i, a, k, g1, (h i a k g1).1 g2, g3, g4⟩
  · rintro ⟨i, a, k, g1, g2, g3, g4⟩
    exact ⟨i, a, k, g1, (h i a k g1).2 g2, g3, g4⟩
/-- All levels at a place. -/
def HitA (Q : List (List Nat × List Nat)) (row : List Nat) (j v : Nat) : Prop := Hit Q row (fun _ _ _ => True) j v
theorem mx_le {Q : List (List Nat × List Nat)} {row : List Nat} {C : Nat → Nat → Nat → Prop} {j x : Nat} (hx : Mx (Hit Q row C j) x) (h9 : ∀ e ∈ Q, ∀ v ∈ e.2, v ≤ 9) : x ≤ 9 := by
  rcases hx.1 with c | ⟨i, a, k, g1, g2, g3, g4⟩
  · omega
  · have hi := g1.1
    have e : Q.getD i default = Q[i] := by simp [List.getD_eq_getElem?_getD, hi]
    have hk := g1.2.2.2.2
    rw [g4]
    rw [e] at hk ⊢
    have : (Q[i]).2.getD k 0 = (Q[i]).2[k] := by simp [List.getD_eq_getElem?_getD, hk]
    rw [this]
    exact h9 _ (List.getElem_mem hi) _ (List.getElem_mem hk)
theorem cnts_iff (Q : List (List Nat × List Nat)) (i : Nat) (hi : i < Q.length) : cnts Q i ↔ lookL Q (Q.getD i default).1 = some (Q.getD i default).2 ∧ ∀ (k : Nat) (e : List Nat × List Nat), i < k → Q[k]? = some e → e.1 ≠ (Q.getD i default).1 := by
  have e : Q[i]? = some (Q.getD i default) := by simp [List.getD_eq_getElem?_getD, hi]
  have key : cnts Q i ↔ ∀ (k : Nat) (e : List Nat × List Nat), i < k → Q[k]? = some e → e.1 ≠ (Q.getD i default).1 := by
    constructor
    · intro h k e hk he
      have hkl : k < Q.length := by
        rcases Nat.lt_or_ge k Q.length with c | c
        · exact c
        · rw [List.getElem?_eq_none c] at he; cases he
      have := h k hk hkl
      rw [show Q.getD k default = e by rw [List.getD_eq_getElem?_getD, he]; rfl] at this
      exact this
    · intro h k hk hkl
      exact h k _ hk (by simp [List.getD_eq_getElem?_getD, hkl])
  constructor
  · intro h
    have h2 := key.1 h
    exact ⟨(lookL_iff _ _ _).2 ⟨i, e, h2⟩, h2⟩
  · intro h; exact key.2 h.2
theorem cnts_of_look (Q : List (List Nat × List Nat)) (P V : List Nat) (h : lookL Q P = some V) : ∃ i, i < Q.length ∧ cnts Q i ∧ Q.getD i default = (P, V) := by
  obtain ⟨i, h1, h2⟩ := (lookL_iff Q P V).1 h
  have hi : i < Q.length := by
    rcases Nat.lt_or_ge i Q.length with c | c
    · exact c
    · rw [List.getElem?_eq_none c] at h1; cases h1
  have e : Q.getD i default = (P, V) := by rw [List.getD_eq_getElem?_getD, h1]; rfl
  refine ⟨i, hi, ?_, e⟩
  intro k hk hkl
  rw [e]
  exact h2 k _ hk (by simp [List.getD_eq_getElem?_getD, hkl])
theorem cnts_one (Q : List (List Nat × List Nat)) (i k : Nat) (hi : i < Q.length) (hk : k < Q.length) (h1 : cnts Q i) (h2 : cnts Q k) (h : (Q.getD i default).1 = (Q.getD k default).1) : i = k := by
  rcases Nat.lt_trichotomy i k with c | c | c
  · exact absurd h.symm (h1 k c hk)
  · exact c
  · exact absurd h (h2 i c hi)

/-- What may be told of a word of small letters. -/
def PtsIs (Q W : List (List Nat × List Nat)) (l r : Nat) (L out : List Nat) : Prop := ∃ od : Nat → Bool, out = ptsOf L.length l r od ∧ (∀ A, lookL W L = some A → ∀ n, n < L.length → od n = decide (n ∈ A)) ∧
  (lookL W L = none → ∀ n, n < L.length → ∃ x, Mx (HitA Q (46 :: (L ++ [46])) (n + 1)) x ∧ od n = decide (x % 2 = 1))
theorem PtsIs.uniq {Q W : List (List Nat × List Nat)} {l r : Nat} {L a b : List Nat} (h : PtsIs Q W l r L a) (g : PtsIs Q W l r L b) : a = b := by
  obtain ⟨f, h1, h2, h3⟩ := h
  obtain ⟨f', g1, g2, g3⟩ := g
  rw [h1, g1]
  apply ptsOf_same
  intro i hi
  cases c : lookL W L with
  | some A => rw [h2 A c i hi, g2 A c i hi]
  | none =>
    obtain ⟨x, x1, x2⟩ := h3 c i hi
    obtain ⟨y, y1, y2⟩ := g3 c i hi
    rw [x2, y2, x1.uniq y1]
end Go.Proofs.YtflhefgmgdgffaaDoor
