/-
  Pages, in plain words: behind which lines a page may end, how high lines are together, where the next page begins, which lists are a document's lines. No program in it.
-/
import Derived.Test.YtdpjaafdpgkclaaRows
import Derived.WalkKit
namespace Go.Proofs.Ytdpjaafdpgkclaa
set_option linter.unusedSimpArgs false
set_option linter.unusedVariables false

structure Box (p : Prop) : Prop where
  out : p
theorem boxed {p : Prop} (h : p) : Box p := ⟨h⟩
def I64 (n : Int) : Prop := -9223372036854775808 ≤ n ∧ n ≤ 9223372036854775807
/-- Settings. -/
structure Stg where
  t : Int
  l : Int
  a : Int
  d : Int
  z : Int
  o : Int
  i : Int
def Stg.val (s : Stg) : Value := .agg #[.int .i64 s.t, .int .i64 s.l, .int .i64 s.a, .int .i64 s.d, .int .i64 s.z, .int .i64 s.o, .int .i64 s.i]
/-- A line as pages see it. -/
structure Slt where
  h : Int
  i : Int
  c : Int
  k : Bool
def Slt.val (s : Slt) : Value := .agg #[.int .i64 s.h, .int .i64 s.i, .int .i64 s.c, .bool s.k]
/-- May a page end behind a line? -/
def may (s : Slt) (o v : Int) : Bool := if s.i + 1 = s.c then !s.k else decide (o ≤ s.i + 1) && decide (v ≤ s.c - (s.i + 1))
/-- Lines of a document among n. -/
def SltOk (n : Nat) (s : Slt) : Prop := (1 ≤ s.h ∧ s.h ≤ 1048576) ∧ 0 ≤ s.i ∧ s.i < s.c ∧ s.c ≤ n
/-- How high m lines from a on are together. -/
def hi (F : Nat → Slt) (a : Nat) : Nat → Int
  | 0 => 0
  | m + 1 => hi F a m + (F (a + m)).h
theorem hi_le (F : Nat → Slt) (n a m m' : Nat) (hp : ∀ j, j < n → 1 ≤ (F j).h) (h : m ≤ m') (hn : a + m' ≤ n) : hi F a m ≤ hi F a m' := by
  induction m' with
  | zero => have : m = 0 := by omega
            subst this; exact Int.le_refl _
  | succ m' ih =>
    by_cases c : m = m' + 1
    · subst c; exact Int.le_refl _
    · have h1 := ih (by omega) (by omega)
      have h2 := hp (a + m') (by omega)
      show _ ≤ hi F a m' + (F (a + m')).h
      omega
theorem hi_bound (F : Nat → Slt) (n a m : Nat) (B : Int) (hp : ∀ j, j < n → 0 ≤ (F j).h ∧ (F j).h ≤ B) (hn : a + m ≤ n) : 0 ≤ hi F a m ∧ hi F a m ≤ m * B := by
  induction m with
  | zero => simp [hi]
  | succ m ih =>
    have h1 := ih (by omega)
    have h2 := hp (a + m) (by omega)
    show 0 ≤ hi F a m + (F (a + m)).h ∧ hi F a m + (F (a + m)).h ≤ _
    have e : ((m + 1 : Nat) : Int) * B = m * B + B := by
      rw [Int.natCast_add, Int.add_mul]; simp
    rw [e]
    omega
/-- A document's lines, what settings ask for, and how high pages are. -/
structure Dc where
  F : Nat → Slt
  n : Nat
  o : Int
  v : Int
  H : Int
/-- May a page end ahead of line k? -/
def Dc.cut (D : Dc) (k : Nat) : Bool := decide (k = D.n) || (decide (0 < k) && decide (k < D.n) && may (D.F (k - 1)) D.o D.v)
theorem Dc.cut_end (D : Dc) : D.cut D.n = true := by simp [Dc.cut]
/-- The next page's beginning, as far as m lines from a on tell. -/
def Dc.nxr (D : Dc) (a : Nat) : Nat → Nat
  | 0 => a
  | m + 1 => if D.cut (a + m + 1) = true ∧ (D.nxr a m = a ∨ hi D.F a (m + 1) ≤ D.H) then a + m + 1 else D.nxr a m
def Dc.nx (D : Dc) (a : Nat) : Nat := D.nxr a (D.n - a)
/-- Where page j begins. -/
def Dc.it (D : Dc) : Nat → Nat
  | 0 => 0
  | j + 1 => D.nx (D.it j)
theorem Dc.nxr_le (D : Dc) (a m : Nat) : a ≤ D.nxr a m ∧ D.nxr a m ≤ a + m := by
  induction m with
  | zero => exact ⟨Nat.le_refl _, Nat.le_refl _⟩
  | succ m ih =>
    have e : D.nxr a (m + 1) = if D.cut (a + m + 1) = true ∧ (D.nxr a m = a ∨ hi D.F a (m + 1) ≤ D.H) then a + m + 1 else D.nxr a m := rfl
    rw [e]
    split <;> omega
theorem Dc.nxr_none (D : Dc) (a m : Nat) (h : D.nxr a m = a) : ∀ k, a < k → k ≤ a + m → D.cut k = false := by
  induction m with
  | zero => intro k h1 h2; omega
  | succ m ih =>
    have e : D.nxr a (m + 1) = if D.cut (a + m + 1) = true ∧ (D.nxr a m = a ∨ hi D.F a (m + 1) ≤ D.H) then a + m + 1 else D.nxr a m := rfl
    rw [e] at h
    split at h
    · omega
    · next hc =>
      intro k h1 h2
      by_cases c : k = a + m + 1
      · subst c
        cases hk : D.cut (a + m + 1) with
        | false => rfl
        | true => exact absurd ⟨hk, .inl h⟩ hc
      · exact ih h k h1 (by omega)
theorem Dc.nxr_cut (D : Dc) (a m : Nat) : D.nxr a m = a ∨ D.cut (D.nxr a m) = true := by
  induction m with
  | zero => exact .inl rfl
  | succ m ih =>
    have e : D.nxr a (m + 1) = if D.cut (a + m + 1) = true ∧ (D.nxr a m = a ∨ hi D.F a (m + 1) ≤ D.H) then a + m + 1 else D.nxr a m := rfl
    rw [e]
    split
    · next hc => exact .inr hc.1
    · exact ih
theorem Dc.nxr_first (D : Dc) (a m : Nat) (h : D.H < hi D.F a (D.nxr a m - a)) : ∀ k, a < k → k < D.nxr a m → D.cut k = false := by
  induction m with
  | zero => intro k h1 h2; have : D.nxr a 0 = a := rfl; omega
  | succ m ih =>
    have e : D.nxr a (m + 1) = if D.cut (a + m + 1) = true ∧ (D.nxr a m = a ∨ hi D.F a (m + 1) ≤ D.H) then a + m + 1 else D.nxr a m := rfl
    rw [e] at h ⊢
    split at h
    · next hc =>
      rw [if_pos hc]
      rcases hc.2 with h0 | h0
      · intro k h1 h2
        exact D.nxr_none a m h0 k h1 (by omega)
      · rw [show a + m + 1 - a = m + 1 by omega] at h; omega
    · next hc => rw [if_neg hc]; exact ih h
theorem Dc.nxr_best (D : Dc) (a m : Nat) : ∀ k, D.nxr a m < k → k ≤ a + m → D.cut k = true → D.H < hi D.F a (k - a) := by
  induction m with
  | zero => intro k h1 h2; have : D.nxr a 0 = a := rfl; omega
  | succ m ih =>
    have e : D.nxr a (m + 1) = if D.cut (a + m + 1) = true ∧ (D.nxr a m = a ∨ hi D.F a (m + 1) ≤ D.H) then a + m + 1 else D.nxr a m := rfl
    rw [e]
    split
    · intro k h1 h2; omega
    · next hc =>
      intro k h1 h2 h3
      by_cases c : k = a + m + 1
      · subst c
        rw [show a + m + 1 - a = m + 1 by omega]
        by_cases q : hi D.F a (m + 1) ≤ D.H
        · exact absurd ⟨h3, .inr q⟩ hc
        · omega
      · exact ih k h1 (by omega) h3
/-- Once too high behind a place where a page may end, no more lines come to it. -/
theorem Dc.nxr_stay (D : Dc) (a m m' : Nat) (hp : ∀ j, j < D.n → 1 ≤ (D.F j).h) (hn : a + m' ≤ D.n) (h1 : D.nxr a m ≠ a) (h2 : D.H < hi D.F a (m + 1)) (hm : m ≤ m') : D.nxr a m' = D.nxr a m := by
  induction m' with
  | zero => have : m = 0 := by omega
            subst this; rfl
  | succ m' ih =>
    by_cases c : m = m' + 1
    · subst c; rfl
    · have e := ih (by omega) (by omega)
      show (if D.cut (a + m' + 1) = true ∧ (D.nxr a m' = a ∨ hi D.F a (m' + 1) ≤ D.H) then a + m' + 1 else D.nxr a m') = _
      have h3 := hi_le D.F D.n a (m + 1) (m' + 1) hp (by omega) hn
      rw [if_neg ?_, e]
      rintro ⟨-, q | q⟩
      · rw [e] at q; exact h1 q
      · omega
theorem Dc.nx_gt (D : Dc) (a : Nat) (h : a < D.n) : a < D.nx a ∧ D.nx a ≤ D.n ∧ D.cut (D.nx a) = true := by
  have h1 := D.nxr_le a (D.n - a)
  have h2 := D.nxr_cut a (D.n - a)
  have h3 : D.nx a ≠ a := fun e => by
    have := D.nxr_none a (D.n - a) e D.n h (by omega)
    rw [D.cut_end] at this
    cases this
  unfold Dc.nx at *
  refine ⟨by omega, by omega, ?_⟩
  rcases h2 with h2 | h2
  · exact absurd h2 h3
  · exact h2
theorem Dc.nx_end (D : Dc) (a : Nat) (h : D.n ≤ a) : D.nx a = a := by
  unfold Dc.nx
  rw [show D.n - a = 0 by omega]; rfl
theorem Dc.it_le (D : Dc) (j : Nat) : D.it j ≤ D.n := by
  induction j with
  | zero => exact Nat.zero_le _
  | succ j ih =>
    show D.nx (D.it j) ≤ _
    by_cases c : D.it j < D.n
    · exact (D.nx_gt _ c).2.1
    · rw [D.nx_end _ (by omega)]; exact ih
theorem Dc.it_ge (D : Dc) (j : Nat) (h : ∀ i, i < j → D.it i < D.n) : j ≤ D.it j := by
  induction j with
  | zero => exact Nat.zero_le _
  | succ j ih =>
    have h1 := ih (fun i hi => h i (by omega))
    have h2 := (D.nx_gt _ (h j (by omega))).1
    show _ ≤ D.nx (D.it j)
    omega
/-- So many pages there are. -/
def Dc.Pgs (D : Dc) (J : Nat) : Prop := (∀ i, i < J → D.it i < D.n) ∧ D.it J = D.n
theorem Dc.pgs_one (D : Dc) {J K : Nat} (h : D.Pgs J) (k : D.Pgs K) : J = K := by
  rcases Nat.lt_trichotomy J K with c | c | c
  · have := k.1 J c; have := h.2; omega
  · exact c
  · have := h.1 K c; have := k.2; omega
/-- The first numbers of pages. -/
def Dc.its (D : Dc) (j : Nat) : List Nat := (List.range j).map D.it
theorem Dc.its_len (D : Dc) (j : Nat) : (D.its j).length = j := by simp [Dc.its]
theorem Dc.its_get (D : Dc) (j i : Nat) (h : i < j) : (D.its j).getD i 0 = D.it i := by simp [Dc.its, h]
theorem Dc.its_snoc (D : Dc) (j : Nat) : D.its (j + 1) = D.its j ++ [D.it j] := by simp [Dc.its, List.range_succ]

/-- Line j of a paragraph of m lines that begins with line i. -/
def okL (F : Nat → Slt) (i m j : Nat) : Prop := (1 ≤ (F (i + j)).h ∧ (F (i + j)).h ≤ 1048576) ∧ (F (i + j)).i = j ∧ (F (i + j)).c = m ∧ (F (i + j)).k = (F i).k
/-- The lines from i on are paragraphs one behind the other. -/
inductive Rts (F : Nat → Slt) (n : Nat) : Nat → Prop
  | done : Rts F n n
  | par (i m : Nat) : 1 ≤ m → i + m ≤ n → (F i).c = m → (∀ j, j < m → okL F i m j) → Rts F n (i + m) → Rts F n i
theorem Rts.inv {F : Nat → Slt} {n i : Nat} (h : Rts F n i) (hi : i < n) : ∃ m : Nat, 1 ≤ m ∧ i + m ≤ n ∧ (F i).c = m ∧ (∀ j, j < m → okL F i m j) ∧ Rts F n (i + m) := by
  cases h with
  | done => omega
  | par _ m h1 h2 h3 h4 h5 => exact ⟨m, h1, h2, h3, h4, h5⟩
theorem Rts.step {F : Nat → Slt} {n i m : Nat} (h1 : 1 ≤ m) (h2 : i + m ≤ n) (h3 : (F i).c = m) (h4 : ∀ j, j < m → okL F i m j) : Rts F n i ↔ Rts F n (i + m) := by
  constructor
  · intro h
    obtain ⟨m', k1, k2, k3, k4, k5⟩ := h.inv (by omega)
    have : m' = m := by omega
    subst this
    exact k5
  · intro h
    exact .par i m h1 h2 h3 h4 h
theorem Rts.ok {F : Nat → Slt} {n i : Nat} (h : Rts F n i) : ∀ j, i ≤ j → j < n → SltOk n (F j) := by
  induction h with
  | done => intro j h1 h2; omega
  | par i m h1 h2 h3 h4 h5 ih =>
    intro j k1 k2
    by_cases c : i + m ≤ j
    · exact ih j c k2
    · obtain ⟨d, rfl⟩ : ∃ d, j = i + d := ⟨j - i, by omega⟩
      obtain ⟨q1, q2, q3, q4⟩ := h4 d (by omega)
      unfold SltOk
      omega
end Go.Proofs.Ytdpjaafdpgkclaa
