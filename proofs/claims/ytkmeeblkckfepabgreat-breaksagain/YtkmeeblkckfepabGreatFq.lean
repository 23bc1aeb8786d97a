/-
  Plain: the windows hold the cheapest hopeless lines, the choice the cheapest of each class, and the cheapest of these is the rest's first line. No walk.
-/
import Derived.Test.YtkmeeblkckfepabGreatFp
namespace Go.Proofs.YtkmeeblkckfepabGreat
set_option linter.unusedSimpArgs false
set_option linter.unusedVariables false

/-- A window over the breaks from lo up to hi: no later one is as cheap. -/
def Good (u : Nat → Int) (lo hi : Nat) (L : List (Nat × Int)) : Prop := (∀ x ∈ L, lo ≤ x.1 ∧ x.1 < hi ∧ x.2 = u x.1) ∧ L.Pairwise (fun x y => y.1 < x.1 ∧ x.2 < y.2) ∧ ∀ e, lo ≤ e → e < hi → ∃ x ∈ L, x.1 ≤ e ∧ x.2 ≤ u e
theorem good_nil (u : Nat → Int) (lo hi : Nat) (h : hi ≤ lo) : Good u lo hi [] := ⟨fun x hx => by (cases hx), List.Pairwise.nil, fun e h1 h2 => by omega⟩
theorem good_empty {u : Nat → Int} {lo hi : Nat} (h : Good u lo hi []) : hi ≤ lo := by
  by_cases c : hi ≤ lo
  · exact c
  · obtain ⟨x, hx, -⟩ := h.2.2 lo (Nat.le_refl _) (by omega)
    cases hx
theorem good_head {u : Nat → Int} {lo hi : Nat} {x : Nat × Int} {M : List (Nat × Int)} (h : Good u lo hi (x :: M)) : (lo ≤ x.1 ∧ x.1 < hi ∧ x.2 = u x.1) ∧ ∀ e, lo ≤ e → e < hi → x.2 < u e ∨ (x.2 = u e ∧ x.1 ≤ e) := by
  refine ⟨h.1 x (by simp), fun e h1 h2 => ?_⟩
  obtain ⟨y, hy, h3, h4⟩ := h.2.2 e h1 h2
  rcases List.mem_cons.1 hy with rfl | hy
  · omega
  · have := (List.pairwise_cons.1 h.2.1).1 y hy
    omega
theorem good_len {u : Nat → Int} {lo hi : Nat} {L : List (Nat × Int)} (h : Good u lo hi L) : L.length ≤ hi - lo := by
  have key : ∀ (L : List (Nat × Int)) (hi : Nat), (∀ x ∈ L, lo ≤ x.1 ∧ x.1 < hi) → L.Pairwise (fun x y => y.1 < x.1 ∧ x.2 < y.2) → L.length ≤ hi - lo := by
    intro L
    induction L with
    | nil => intro hi _ _; simp
    | cons x M ih =>
      intro hi h1 h2
      have h3 := List.pairwise_cons.1 h2
      have h4 := h1 x (by simp)
      have h5 := ih x.1 (fun y hy => ⟨(h1 y (by simp [hy])).1, (h3.1 y hy).1⟩) h3.2
      simp only [List.length_cons]
      omega
  exact key L hi (fun x hx => ⟨(h.1 x hx).1, (h.1 x hx).2.1⟩) h.2.1
/-- The lines that stay ahead of a new one. -/
theorem pk_facts (L : List (Nat × Int)) (c : Int) (k : Nat) (hk : k ≤ L.length) : (∀ j, pk L c k ≤ j → j < k → c ≤ (L.getD j (0, 0)).2) ∧ (0 < pk L c k → (L.getD (pk L c k - 1) (0, 0)).2 < c) := by
  induction k with
  | zero => simp [pk]
  | succ k ih =>
    have h1 := ih (by omega)
    have h2 := pk_le L c k
    simp only [pk]
    split
    · rename_i hc
      refine ⟨fun j hj1 hj2 => ?_, h1.2⟩
      by_cases e : j = k
      · subst e; exact hc
      · exact h1.1 j hj1 (by omega)
    · rename_i hc
      exact ⟨fun j hj1 hj2 => by omega, fun _ => by simpa using hc⟩
theorem pw_get {L : List (Nat × Int)} (h : L.Pairwise (fun x y => y.1 < x.1 ∧ x.2 < y.2)) (i j : Nat) (hij : i < j) (hj : j < L.length) : (L.getD j (0, 0)).1 < (L.getD i (0, 0)).1 ∧ (L.getD i (0, 0)).2 < (L.getD j (0, 0)).2 := by
  have := (List.pairwise_iff_getElem.1 h) i j (by omega) hj hij
  rw [List.getD_eq_getElem?_getD, List.getD_eq_getElem?_getD, List.getElem?_eq_getElem hj, List.getElem?_eq_getElem (show i < L.length by omega)]
  exact this
theorem good_add {u : Nat → Int} {i hi : Nat} {L : List (Nat × Int)} (h : Good u (i + 1) hi L) (hi' : i < hi) : Good u i hi (L.take (pk L (u i) L.length) ++ [(i, u i)]) := by
  obtain ⟨p1, p2⟩ := pk_facts L (u i) L.length (Nat.le_refl _)
  have hp := pk_le L (u i) L.length
  generalize pk L (u i) L.length = p at *
  have htake : ∀ x ∈ L.take p, x.2 < u i := by
    intro x hx
    obtain ⟨j, hj, e⟩ := List.mem_iff_getElem.1 hx
    rw [List.length_take] at hj
    rw [List.getElem_take] at e
    have hpp : 0 < p := by omega
    have h3 := p2 hpp
    by_cases c : j = p - 1
    · subst c
      rw [List.getD_eq_getElem?_getD, List.getElem?_eq_getElem (by omega)] at h3
      rw [← e]; exact h3
    · have := (pw_get h.2.1 j (p - 1) (by omega) (by omega)).2
      rw [List.getD_eq_getElem?_getD, List.getElem?_eq_getElem (show j < L.length by omega)] at this
      simp only [Option.getD_some] at this
      rw [e] at this
      omega
  refine ⟨fun x hx => ?_, ?_, fun e h1 h2 => ?_⟩
  · rcases List.mem_append.1 hx with hx | hx
    · have := h.1 x (List.mem_of_mem_take hx)
      exact ⟨by omega, this.2⟩
    · simp at hx; subst hx; exact ⟨Nat.le_refl _, hi', rfl⟩
  · rw [List.pairwise_append]
    refine ⟨h.2.1.sublist (List.take_sublist _ _), by simp, fun x hx y hy => ?_⟩
    simp at hy
    subst hy
    exact ⟨by have := (h.1 x (List.mem_of_mem_take hx)).1; simp only; omega, htake x hx⟩
  · by_cases c : e = i
    · subst c
      exact ⟨(e, u e), by simp, Nat.le_refl _, Int.le_refl _⟩
    · obtain ⟨x, hx, h3, h4⟩ := h.2.2 e (by omega) h2
      obtain ⟨j, hj, ej⟩ := List.mem_iff_getElem.1 hx
      by_cases cj : j < p
      · refine ⟨x, ?_, h3, h4⟩
        rw [List.mem_append]
        left
        rw [List.mem_iff_getElem]
        exact ⟨j, by rw [List.length_take]; omega, by rw [List.getElem_take]; exact ej⟩
      · have := p1 j (by omega) hj
        rw [List.getD_eq_getElem?_getD, List.getElem?_eq_getElem hj] at this
        simp only [Option.getD_some] at this
        rw [ej] at this
        exact ⟨(i, u i), by simp, by simp only; omega, by simp only; omega⟩
theorem good_dr {u : Nat → Int} {lo hi nr : Nat} {L : List (Nat × Int)} (h : Good u lo hi L) (hn : nr ≤ hi) : Good u lo nr (dr nr L) := by
  have key : ∀ (L : List (Nat × Int)), L.Pairwise (fun x y => y.1 < x.1 ∧ x.2 < y.2) → ∀ x, x ∈ dr nr L ↔ x ∈ L ∧ x.1 < nr := by
    intro L
    induction L with
    | nil => intro _ x; simp [dr]
    | cons y M ih =>
      intro hp x
      have hp2 := List.pairwise_cons.1 hp
      have h1 := ih hp2.2 x
      unfold dr at h1 ⊢
      rw [List.dropWhile_cons]
      by_cases c : nr ≤ y.1
      · rw [if_pos (by simp; omega), h1, List.mem_cons]
        constructor
        · rintro ⟨a, b⟩; exact ⟨.inr a, b⟩
        · rintro ⟨a | a, b⟩
          · subst a; omega
          · exact ⟨a, b⟩
      · rw [if_neg (by simp; omega)]
        constructor
        · intro hx
          refine ⟨hx, ?_⟩
          rcases List.mem_cons.1 hx with rfl | hx
          · omega
          · have := hp2.1 x hx; omega
        · exact fun hx => hx.1
  have hk := key L h.2.1
  refine ⟨fun x hx => ?_, h.2.1.sublist (List.dropWhile_sublist _), fun e h1 h2 => ?_⟩
  · have := (hk x).1 hx
    have h3 := h.1 x this.1
    exact ⟨h3.1, this.2, h3.2.2⟩
  · obtain ⟨x, hx, h3, h4⟩ := h.2.2 e h1 (by omega)
    exact ⟨x, (hk x).2 ⟨hx, by omega⟩, h3, h4⟩
section
variable (I : Nat → Itm) (n : Nat) (width : Int) (s : Stg) (R : Nat → Nat → Int × Nat) (i : Nat)
/-- What the rest behind the line up to break j comes to. -/
def rj (j : Nat) : Int := (R j (ftb I n width ((i : Int) - 1) j).cls.toNat).1
/-- The cheapest line of each class among those that end ahead of e. -/
def ChS (C : Nat → Ln) (e : Nat) : Prop := ∀ c, c < 4 → ((C c).c = Awf ∧ ∀ j, i ≤ j → j < e → doz I n width s ((i : Int) - 1) j = true → (ftb I n width ((i : Int) - 1) j).cls = (c : Int) → rj I n width R i j = Awf) ∨
  (∃ j, i ≤ j ∧ j < e ∧ doz I n width s ((i : Int) - 1) j = true ∧ (ftb I n width ((i : Int) - 1) j).cls = (c : Int) ∧ rj I n width R i j ≠ Awf ∧ (C c).e = (j : Int) ∧ (C c).c = vC I n width s R ((i : Int) - 1) j ∧ ((C c).f.over = (ftb I n width ((i : Int) - 1) j).over ∧ (C c).f.bad = (ftb I n width ((i : Int) - 1) j).bad ∧ (C c).f.cls = (ftb I n width ((i : Int) - 1) j).cls) ∧
    ∀ j', i ≤ j' → j' < e → doz I n width s ((i : Int) - 1) j' = true → (ftb I n width ((i : Int) - 1) j').cls = (c : Int) → rj I n width R i j' ≠ Awf → vC I n width s R ((i : Int) - 1) j < vC I n width s R ((i : Int) - 1) j' ∨ (vC I n width s R ((i : Int) - 1) j = vC I n width s R ((i : Int) - 1) j' ∧ j ≤ j'))
end
section
variable {I : Nat → Itm} {n : Nat} {width : Int} {s : Stg} {R : Nat → Nat → Int × Nat} {i : Nat}
theorem chs_start : ChS I n width s R i (fun _ => Ln.none) i := fun c hc => .inl ⟨rfl, fun j h1 h2 => by omega⟩
/-- What a line costs with the rest behind it, where there is one. -/
theorem vC_less (hn : n ≤ 262144) (hok : ∀ i, i < n → okI I i = true) (hs : okS s = true) (a : Int) (j : Nat) (hd : doz I n width s ((i : Int) - 1) j = true) (r : Int) (hr : r = Awf ∨ (0 ≤ r ∧ r ≤ 140737488355328)) :
    ((r = Awf ∧ tt (cst s (ftb I n width ((i : Int) - 1) j) (itb I n j) a (itb I n ((i : Int) - 1)).flag (decide (j + 1 = nbk I n))) r = Awf) ∨ (r ≠ Awf ∧ tt (cst s (ftb I n width ((i : Int) - 1) j) (itb I n j) a (itb I n ((i : Int) - 1)).flag (decide (j + 1 = nbk I n))) r = bas s (ftb I n width ((i : Int) - 1) j) (itb I n j) (itb I n ((i : Int) - 1)).flag (decide (j + 1 = nbk I n)) + adj s a (ftb I n width ((i : Int) - 1) j).cls + r ∧ tt (cst s (ftb I n width ((i : Int) - 1) j) (itb I n j) a (itb I n ((i : Int) - 1)).flag (decide (j + 1 = nbk I n))) r < Awf)) := by
  have hb := ftb_cls I n width ((i : Int) - 1) j
  simp [doz] at hd
  obtain ⟨e, b1, b2⟩ := cst_parts s (ftb I n width ((i : Int) - 1) j) (itb I n j) a (itb I n ((i : Int) - 1)).flag (decide (j + 1 = nbk I n)) hs hb.2.2 (itb_c I n hok j) hd.1
  rw [e]
  rcases hr with rfl | hr
  · left
    refine ⟨rfl, ?_⟩
    rw [tt_sum _ _ (by omega) (by unfold Awf; omega)]
    unfold Awf; omega
  · right
    have hne : r ≠ Awf := by unfold Awf; omega
    refine ⟨hne, ?_⟩
    rw [tt_sum _ _ (by omega) hr.1]
    unfold Awf; omega
end
end Go.Proofs.YtkmeeblkckfepabGreat
