/-
  All ways one after the other, and by what the lines behind each break cost, in plain words; the order of ways. No program in it.
-/
import Derived.Test.YtkmeeblkckfepaaGreatPk18
namespace Go.Proofs.YtkmeeblkckfepaaGreat
set_option linter.unusedSimpArgs false
set_option linter.unusedVariables false

/-- Of what was the best so far and of some ways the best, the first in order. -/
def Upd (P : Pr) (A : List Nat → Prop) (b b' : Option (Int × List Nat)) : Prop :=
  (b' = b ∧ ∀ l c, A l → cw P 0 (-1) l = some c → ∃ x, b = some x ∧ x.1 ≤ c) ∨
  (∃ l c, A l ∧ cw P 0 (-1) l = some c ∧ b' = some (c, l) ∧ (∀ x, b = some x → c < x.1) ∧ ∀ l' c', A l' → cw P 0 (-1) l' = some c' → c < c' ∨ (c = c' ∧ lle l l' = true))
theorem upd_none {P : Pr} {A : List Nat → Prop} (b : Option (Int × List Nat)) (h : ∀ l c, A l → cw P 0 (-1) l = some c → False) : Upd P A b b := .inl ⟨rfl, fun l c h1 h2 => (h l c h1 h2).elim⟩
theorem upd_then {P : Pr} {A B : List Nat → Prop} {b b1 b2 : Option (Int × List Nat)} (h1 : Upd P A b b1) (h2 : Upd P B b1 b2) (ho : ∀ x y, A x → B y → lle x y = true) : Upd P (fun l => A l ∨ B l) b b2 := by
  rcases h1 with ⟨e1, p1⟩ | ⟨l1, c1, a1, k1, e1, p1, q1⟩
  · subst e1
    rcases h2 with ⟨e2, p2⟩ | ⟨l2, c2, a2, k2, e2, p2, q2⟩
    · subst e2
      refine .inl ⟨rfl, fun l c h hc => ?_⟩
      rcases h with h | h
      · exact p1 l c h hc
      · exact p2 l c h hc
    · refine .inr ⟨l2, c2, .inr a2, k2, e2, p2, fun l' c' h hc => ?_⟩
      rcases h with h | h
      · obtain ⟨x, hx, hl⟩ := p1 l' c' h hc
        have := p2 x hx
        exact .inl (by omega)
      · exact q2 l' c' h hc
  · rcases h2 with ⟨e2, p2⟩ | ⟨l2, c2, a2, k2, e2, p2, q2⟩
    · subst e2
      refine .inr ⟨l1, c1, .inl a1, k1, e1, p1, fun l' c' h hc => ?_⟩
      rcases h with h | h
      · exact q1 l' c' h hc
      · obtain ⟨x, hx, hl⟩ := p2 l' c' h hc
        rw [e1] at hx
        injection hx with hx
        subst hx
        simp only at hl
        by_cases e : c1 = c'
        · exact .inr ⟨e, ho _ _ a1 h⟩
        · exact .inl (by omega)
    · have h3 := p2 _ e1
      simp only at h3
      refine .inr ⟨l2, c2, .inr a2, k2, e2, fun x hx => by have := p1 x hx; omega, fun l' c' h hc => ?_⟩
      rcases h with h | h
      · have := q1 l' c' h hc
        exact .inl (by omega)
      · exact q2 l' c' h hc
theorem upd_mono {P : Pr} {A B : List Nat → Prop} {b b' : Option (Int × List Nat)} (h : Upd P A b b') (hab : ∀ l c, cw P 0 (-1) l = some c → (A l ↔ B l)) : Upd P B b b' := by
  rcases h with ⟨e1, p1⟩ | ⟨l1, c1, a1, k1, e1, p1, q1⟩
  · exact .inl ⟨e1, fun l c h hc => p1 l c ((hab l c hc).2 h) hc⟩
  · exact .inr ⟨l1, c1, (hab _ _ k1).1 a1, k1, e1, p1, fun l c h hc => q1 l c ((hab l c hc).2 h) hc⟩
theorem upd_one {P : Pr} (l : List Nat) (c : Int) (b : Option (Int × List Nat)) (hc : cw P 0 (-1) l = some c) (h : ∀ x, b = some x → c < x.1) : Upd P (fun l' => l' = l) b (some (c, l)) :=
  .inr ⟨l, c, rfl, hc, rfl, h, fun l' c' e hc' => by subst e; rw [hc] at hc'; injection hc' with e; exact .inr ⟨e, lle_refl _⟩⟩
theorem upd_not {P : Pr} (l : List Nat) (c : Int) (x : Int × List Nat) (hc : cw P 0 (-1) l = some c) (h : x.1 ≤ c) : Upd P (fun l' => l' = l) (some x) (some x) :=
  .inl ⟨rfl, fun l' c' e hc' => by subst e; rw [hc] at hc'; injection hc' with e; subst e; exact ⟨x, rfl, h⟩⟩
theorem upd_all {P : Pr} {b' : Option (Int × List Nat)} (h : Upd P (fun _ => True) none b') : (b' = none ∧ Noway P 0 (-1)) ∨ ∃ c l, b' = some (c, l) ∧ Best P 0 (-1) c l := by
  rcases h with ⟨e1, p1⟩ | ⟨l1, c1, a1, k1, e1, p1, q1⟩
  · refine .inl ⟨e1, fun l => ?_⟩
    cases hc : cw P 0 (-1) l with
    | none => rfl
    | some c => obtain ⟨x, hx, -⟩ := p1 l c trivial hc; cases hx
  · exact .inr ⟨c1, l1, e1, k1, fun l' c' hc => q1 l' c' trivial hc⟩
theorem lle_pre (p : List Nat) (x y : Nat) (s t : List Nat) (h : x < y) : lle (p ++ x :: s) (p ++ y :: t) = true := by
  induction p with
  | nil => simp [lle, h]
  | cons z p ih => simp [lle, ih]
/-- The ways that go on from a prefix with a break ahead of another one. -/
def Ext (p : List Nat) (j : Nat) : List Nat → Prop := fun l => ∃ x t, x < j ∧ l = p ++ x :: t
theorem ext_zero {P : Pr} {p : List Nat} {k : Nat} {a t : Int} (hN : Nn P) (hp : pf P 0 (-1) 0 p = some (k, a, t)) (b : Option (Int × List Nat)) : Upd P (Ext p k) b b :=
  upd_none b (fun l c h hc => by
    obtain ⟨x, t', hx, rfl⟩ := h
    obtain ⟨c', h1, -⟩ := (pf_cost hN hp).2.2 _ hc
    obtain ⟨hs, -⟩ := cw_cons P _ _ _ _ _ h1
    have := ((mayL_iff P _ _).1 hs).1
    omega)
/-- A line that doesn't do. -/
theorem ext_not {P : Pr} {p : List Nat} {k j : Nat} {a t : Int} (hN : Nn P) (hp : pf P 0 (-1) 0 p = some (k, a, t)) {b b' : Option (Int × List Nat)} (h : Upd P (Ext p j) b b') (hd : mayL P k j = false) : Upd P (Ext p (j + 1)) b b' := by
  refine upd_mono h (fun l c hc => ⟨fun ⟨x, t', hx, e⟩ => ⟨x, t', by omega, e⟩, fun ⟨x, t', hx, e⟩ => ?_⟩)
  subst e
  obtain ⟨c', h1, -⟩ := (pf_cost hN hp).2.2 _ hc
  obtain ⟨hs, -⟩ := cw_cons P _ _ _ _ _ h1
  by_cases q : x = j
  · subst q; rw [hd] at hs; cases hs
  · exact ⟨x, t', by omega, rfl⟩
/-- A line that does, and what goes on behind it. -/
theorem ext_next {P : Pr} {p : List Nat} {j : Nat} {b b1 b2 : Option (Int × List Nat)} (h : Upd P (Ext p j) b b1) (h2 : Upd P (fun l => ∃ t, l = (p ++ [j]) ++ t) b1 b2) : Upd P (Ext p (j + 1)) b b2 := by
  refine upd_mono (upd_then h h2 ?_) (fun l c hc => ?_)
  · rintro _ _ ⟨x, t, hx, rfl⟩ ⟨t', rfl⟩
    rw [List.append_assoc]
    exact lle_pre _ _ _ _ _ hx
  · constructor
    · rintro (⟨x, t, hx, e⟩ | ⟨t, e⟩)
      · exact ⟨x, t, by omega, e⟩
      · exact ⟨j, t, by omega, by rw [e]; simp⟩
    · rintro ⟨x, t, hx, e⟩
      by_cases q : x = j
      · subst q; exact .inr ⟨t, by rw [e]; simp⟩
      · exact .inl ⟨x, t, by omega, e⟩
/-- The last line. -/
theorem ext_last {P : Pr} {p : List Nat} {k j : Nat} {a t : Int} (hN : Nn P) (hp : pf P 0 (-1) 0 p = some (k, a, t)) (hd : mayL P k j = true) (hj : j + 1 = P.m) {b b' : Option (Int × List Nat)} (h : Upd P (fun l => l = p ++ [j]) b b') : Upd P (fun l => ∃ t, l = (p ++ [j]) ++ t) b b' := by
  refine upd_mono h (fun l c hc => ⟨fun e => ⟨[], by rw [e]; simp⟩, fun ⟨r, e⟩ => ?_⟩)
  subst e
  have h2 := pf_snoc P p 0 (-1) 0 k a t j hp hd
  obtain ⟨c', h1, -⟩ := (pf_cost hN h2).2.2 _ hc
  cases r with
  | nil => simp
  | cons x r =>
    obtain ⟨hs, -⟩ := cw_cons P _ _ _ _ _ h1
    have := (mayL_iff P _ _).1 hs
    omega
/-- No way goes on behind a forced break. -/
theorem ext_all {P : Pr} {p : List Nat} {k j : Nat} {a t : Int} (hN : Nn P) (hp : pf P 0 (-1) 0 p = some (k, a, t)) (hk : k < P.m) (hkj : k ≤ j) (hf : P.fo j = true ∨ P.m ≤ j + 1) {b b' : Option (Int × List Nat)} (h : Upd P (Ext p (j + 1)) b b') : Upd P (fun l => ∃ t, l = p ++ t) b b' := by
  refine upd_mono h (fun l c hc => ⟨fun ⟨x, t, _, e⟩ => ⟨x :: t, e⟩, fun ⟨r, e⟩ => ?_⟩)
  subst e
  obtain ⟨c', h1, -⟩ := (pf_cost hN hp).2.2 _ hc
  cases r with
  | nil =>
    simp only [cw] at h1
    rw [if_neg (by omega)] at h1
    cases h1
  | cons x r =>
    obtain ⟨hs, -⟩ := cw_cons P _ _ _ _ _ h1
    obtain ⟨q1, q2, q3, q4⟩ := (mayL_iff P _ _).1 hs
    refine ⟨x, r, ?_, rfl⟩
    by_cases c : x < j + 1
    · exact c
    · rcases hf with hf | hf
      · have := q4 j (by omega) hkj
        rw [hf] at this
        cases this
      · omega
/-- What the lines behind a state cost at least; -1: there are none. -/
def Lst (P : Pr) (i : Nat) (a v : Int) : Prop := (v = -1 ∧ Noway P i a) ∨ (0 ≤ v ∧ (∃ l, cw P i a l = some v) ∧ ∀ l c, cw P i a l = some c → v ≤ c)
theorem lst_end (P : Pr) (a : Int) : Lst P P.m a 0 := by
  refine .inr ⟨by omega, ⟨[], by simp [cw]⟩, fun l c hc => ?_⟩
  cases l with
  | nil => simp [cw] at hc; omega
  | cons x l =>
    obtain ⟨hs, -⟩ := cw_cons P _ _ _ _ _ hc
    have := (mayL_iff P _ _).1 hs
    omega
/-- The same, of the ways whose first break is ahead of another one. -/
def LsJ (P : Pr) (i : Nat) (a : Int) (j : Nat) (v : Int) : Prop := (v = -1 ∧ ∀ x t c, x < j → cw P i a (x :: t) = some c → False) ∨ (0 ≤ v ∧ (∃ x t, x < j ∧ cw P i a (x :: t) = some v) ∧ ∀ x t c, x < j → cw P i a (x :: t) = some c → v ≤ c)
theorem lsj_zero (P : Pr) (i : Nat) (a : Int) : LsJ P i a i (-1) := .inl ⟨rfl, fun x t c hx hc => by
  obtain ⟨hs, -⟩ := cw_cons P _ _ _ _ _ hc
  have := (mayL_iff P _ _).1 hs
  omega⟩
theorem lsj_bnd {P : Pr} {i : Nat} {a : Int} {j : Nat} {v : Int} (hN : Nn P) (h : LsJ P i a j v) : -1 ≤ v ∧ v ≤ Awf := by
  rcases h with ⟨e, -⟩ | ⟨-, ⟨x, t, -, h⟩, -⟩
  · rw [e]; unfold Awf; omega
  · have := cw_nn hN _ _ _ _ h; omega
theorem lst_bnd {P : Pr} {i : Nat} {a : Int} {v : Int} (hN : Nn P) (h : Lst P i a v) : -1 ≤ v ∧ v ≤ Awf := by
  rcases h with ⟨e, -⟩ | ⟨-, ⟨t, h⟩, -⟩
  · rw [e]; unfold Awf; omega
  · have := cw_nn hN _ _ _ _ h; omega
theorem lsj_not {P : Pr} {i : Nat} {a : Int} {j : Nat} {v : Int} (h : LsJ P i a j v) (hd : ∀ t c, cw P i a (j :: t) = some c → False) : LsJ P i a (j + 1) v := by
  have key : ∀ x t c, x < j + 1 → cw P i a (x :: t) = some c → x < j := fun x t c hx hc => by
    by_cases q : x = j
    · subst q; exact (hd t c hc).elim
    · omega
  rcases h with ⟨e, h⟩ | ⟨h0, ⟨x, t, hx, h1⟩, h2⟩
  · exact .inl ⟨e, fun x t c hx hc => h x t c (key x t c hx hc) hc⟩
  · exact .inr ⟨h0, ⟨x, t, by omega, h1⟩, fun x t c hx hc => h2 x t c (key x t c hx hc) hc⟩
theorem tt_mono (a b c : Int) (ha : 0 ≤ a) (hb : 0 ≤ b) (hbc : b ≤ c) : tt a b ≤ tt a c := by
  rw [tt_sum a b ha hb, tt_sum a c ha (by omega)]; omega
/-- Behind a line nothing does. -/
theorem nxt_not {P : Pr} {i : Nat} {a : Int} {j : Nat} {r : Int} (hr : Lst P (j + 1) (P.kl i j) r) (h : r < 0) : ∀ t c, cw P i a (j :: t) = some c → False := fun t c hc => by
  obtain ⟨hs, q, hq, e⟩ := cw_cons P _ _ _ _ _ hc
  rcases hr with ⟨-, hr⟩ | ⟨h0, -, -⟩
  · exact noway_some hr hq
  · omega
/-- Behind a line something does. -/
theorem nxt_some {P : Pr} (hN : Nn P) {i : Nat} {a : Int} {j : Nat} {r : Int} (hs : mayL P i j = true) (hr : Lst P (j + 1) (P.kl i j) r) (h : 0 ≤ r) : (∃ t, cw P i a (j :: t) = some (tt (P.ct i j a) r)) ∧ ∀ t c, cw P i a (j :: t) = some c → tt (P.ct i j a) r ≤ c := by
  rcases hr with ⟨h1, hr⟩ | ⟨h0, ⟨l, hl⟩, h2⟩
  · omega
  · refine ⟨⟨l, cw_mk P _ _ _ _ _ hs hl⟩, fun t c hc => ?_⟩
    obtain ⟨hs, q, hq, e⟩ := cw_cons P _ _ _ _ _ hc
    rw [e]
    exact tt_mono _ _ _ (hN _ _ _ hs).1 h (h2 _ _ hq)
theorem lsj_keep {P : Pr} {i : Nat} {a : Int} {j : Nat} {v u : Int} (h : LsJ P i a j v) (hv : 0 ≤ v) (hvu : v ≤ u) (hd : ∀ t c, cw P i a (j :: t) = some c → u ≤ c) : LsJ P i a (j + 1) v := by
  rcases h with ⟨e, h⟩ | ⟨h0, ⟨x, t, hx, h1⟩, h2⟩
  · omega
  · refine .inr ⟨h0, ⟨x, t, by omega, h1⟩, fun x t c hx hc => ?_⟩
    by_cases q : x = j
    · subst q; have := hd t c hc; omega
    · exact h2 x t c (by omega) hc
theorem lsj_take {P : Pr} {i : Nat} {a : Int} {j : Nat} {v u : Int} (h : LsJ P i a j v) (hv : v < 0 ∨ u < v) (hu : 0 ≤ u) (hd : (∃ t, cw P i a (j :: t) = some u) ∧ ∀ t c, cw P i a (j :: t) = some c → u ≤ c) : LsJ P i a (j + 1) u := by
  obtain ⟨⟨t0, h0⟩, hd⟩ := hd
  refine .inr ⟨hu, ⟨j, t0, by omega, h0⟩, fun x t c hx hc => ?_⟩
  by_cases q : x = j
  · subst q; exact hd t c hc
  · rcases h with ⟨e, h⟩ | ⟨h0, -, h2⟩
    · exact (h x t c (by omega) hc).elim
    · have := h2 x t c (by omega) hc; omega
theorem lsj_all {P : Pr} {i : Nat} {a : Int} {j : Nat} {v : Int} (hi : i < P.m) (hij : i ≤ j) (hf : P.fo j = true ∨ P.m ≤ j + 1) (h : LsJ P i a (j + 1) v) : Lst P i a v := by
  have key : ∀ l c, cw P i a l = some c → ∃ x t, l = x :: t ∧ x < j + 1 := fun l c hc => by
    cases l with
    | nil => simp only [cw] at hc; rw [if_neg (by omega)] at hc; cases hc
    | cons x t =>
      obtain ⟨hs, -⟩ := cw_cons P _ _ _ _ _ hc
      obtain ⟨q1, q2, q3, q4⟩ := (mayL_iff P _ _).1 hs
      refine ⟨x, t, rfl, ?_⟩
      by_cases c : x < j + 1
      · exact c
      · rcases hf with hf | hf
        · have := q4 j (by omega) hij
          rw [hf] at this
          cases this
        · omega
  rcases h with ⟨e, h⟩ | ⟨h0, ⟨x, t, hx, h1⟩, h2⟩
  · refine .inl ⟨e, fun l => ?_⟩
    cases hc : cw P i a l with
    | none => rfl
    | some c => obtain ⟨x, t, rfl, hx⟩ := key l c hc; exact (h x t c hx hc).elim
  · refine .inr ⟨h0, ⟨_, h1⟩, fun l c hc => ?_⟩
    obtain ⟨x, t, rfl, hx⟩ := key l c hc
    exact h2 x t c hx hc
theorem lst_best {P : Pr} {a c v : Int} {l : List Nat} {i : Nat} (h : Lst P i a v) (hb : Best P i a c l) (hc : 0 ≤ c) : v = c := by
  rcases h with ⟨e, h⟩ | ⟨h0, ⟨l', h1⟩, h2⟩
  · exact (noway_some h hb.1).elim
  · have := h2 _ _ hb.1
    have := hb.2 _ _ h1
    omega
theorem lst_noway {P : Pr} {a v : Int} {i : Nat} (h : Lst P i a v) (hn : Noway P i a) : v = -1 := by
  rcases h with ⟨e, h⟩ | ⟨h0, ⟨l', h1⟩, h2⟩
  · exact e
  · exact (noway_some hn h1).elim
theorem tt_asc (a b c : Int) (ha : 0 ≤ a) (hb : 0 ≤ b) (hc : 0 ≤ c) : tt (tt a b) c = tt a (tt b c) := by
  have h1 := tt_bnd a b ha hb
  have h2 := tt_bnd b c hb hc
  rw [tt_sum _ c h1.1 hc, tt_sum a _ ha h2.1, tt_sum a b ha hb, tt_sum b c hb hc]
  unfold Awf
  omega
theorem lle_pre_le (p : List Nat) (x y : Nat) (s t : List Nat) (h : lle (p ++ x :: s) (p ++ y :: t) = true) : x ≤ y := by
  induction p with
  | nil =>
    simp only [List.nil_append, lle, Bool.or_eq_true, Bool.and_eq_true, decide_eq_true_eq] at h
    omega
  | cons z p ih => simp [lle] at h; exact ih h
/-- The next break of the best way is the first one that leads to its cost. -/
theorem fast_next {P : Pr} (hN : Nn P) {c : Int} {p : List Nat} {x : Nat} {q : List Nat} (hb : Best P 0 (-1) c (p ++ x :: q)) {i : Nat} {a t : Int} (hp : pf P 0 (-1) 0 p = some (i, a, t)) (j : Nat) (r : Int) (hij : i ≤ j) (hj : j ≤ x) (hr : Lst P (j + 1) (P.kl i j) r) :
    mayL P i x = true ∧ (P.dz i j = true → mayL P i j = true) ∧ ((P.dz i j = true ∧ 0 ≤ r ∧ tt (tt t (P.ct i j a)) r = c) ↔ j = x) := by
  obtain ⟨g1, g2, g3⟩ := pf_cost (r := x :: q) hN hp
  obtain ⟨cs, k1, k2⟩ := g3 _ hb.1
  obtain ⟨hs, cr, k3, k4⟩ := cw_cons P _ _ _ _ _ k1
  obtain ⟨q1, q2, q3, q4⟩ := (mayL_iff P _ _).1 hs
  have hmay : P.dz i j = true → mayL P i j = true := fun hd => (mayL_iff P _ _).2 ⟨hij, by omega, hd, fun k h1 h2 => q4 k (by omega) h2⟩
  have key : ∀ l', P.dz i j = true → 0 ≤ r → cw P (j + 1) (P.kl i j) l' = some r → cw P 0 (-1) (p ++ j :: l') = some (tt (tt t (P.ct i j a)) r) := fun l' hd h0 hl => by
    have h1 := hN i j a (hmay hd)
    rw [tt_asc _ _ _ g1.1 h1.1 h0]
    exact (pf_cost (r := j :: l') hN hp).2.1 _ (cw_mk P _ _ _ _ _ (hmay hd) hl)
  refine ⟨hs, hmay, ⟨fun ⟨hd, h0, he⟩ => ?_, fun e => ?_⟩⟩
  · rcases hr with ⟨h1, -⟩ | ⟨-, ⟨l', hl⟩, -⟩
    · omega
    · have h2 := hb.2 _ _ (key l' hd h0 hl)
      rw [he] at h2
      rcases h2 with h2 | h2
      · omega
      · have := lle_pre_le _ _ _ _ _ h2.2
        omega
  · subst e
    rcases hr with ⟨-, hr⟩ | ⟨h0, ⟨l', hl⟩, h2⟩
    · exact (noway_some hr k3).elim
    · refine ⟨q3, h0, ?_⟩
      have h3 := hb.2 _ _ (key l' q3 h0 hl)
      have h4 := h2 _ _ k3
      have h1 := hN i j a hs
      have h5 := tt_mono (tt t (P.ct i j a)) r cr (tt_bnd _ _ g1.1 h1.1).1 h0 h4
      rw [tt_asc _ _ cr g1.1 h1.1 (by omega), ← k4, ← k2] at h5
      omega
/-- Of ways in order: where they part first. -/
theorem lle_at (s t : List Nat) (h : lle s t = true) (i : Nat) (he : ∀ k, k < i → s.getD k 0 = t.getD k 0) : (i < s.length → i < t.length → s.getD i 0 ≤ t.getD i 0) ∧ (i = s.length ∨ i = t.length → i ≤ s.length → i ≤ t.length → s.length ≤ t.length) := by
  induction s generalizing t i with
  | nil => simp
  | cons x s ih =>
    cases t with
    | nil => simp [lle] at h
    | cons y t =>
      simp only [lle, Bool.or_eq_true, Bool.and_eq_true, decide_eq_true_eq] at h
      cases i with
      | zero =>
        simp
        omega
      | succ i =>
        have h0 := he 0 (by omega)
        simp at h0
        subst h0
        have h1 : lle s t = true := by rcases h with h | h; omega; exact h.2
        have h2 := ih t h1 i (fun k hk => by have := he (k + 1) (by omega); simpa using this)
        simp only [List.length_cons, List.getD_cons_succ]
        exact ⟨fun a b => h2.1 (by omega) (by omega), fun a b c => by have := h2.2 (by omega) (by omega) (by omega); omega⟩
/-- Breaks' numbers tell the ways apart. -/
theorem bkn_inj (I : Nat → Itm) (n i j : Nat) (hi : i < nbk I n) (hj : j < nbk I n) (h : bkn I n i = bkn I n j) : i = j := by
  rcases Nat.lt_trichotomy i j with q | q | q
  · have := bkn_less I n i j q hj; omega
  · exact q
  · have := bkn_less I n j i q hi; omega
theorem cw_lt {P : Pr} {l : List Nat} {c : Int} (h : cw P 0 (-1) l = some c) (k : Nat) (hk : k < l.length) : l.getD k 0 < P.m := by
  have := (cw_wy P l 0 (-1) c h).1 (l.getD k 0) (by rw [List.getD_eq_getElem?_getD, List.getElem?_eq_getElem hk]; exact List.getElem_mem hk)
  exact this.2
theorem way_one {I : Nat → Itm} {n : Nat} {l l' : List Nat} (hl : l.length = l'.length) (h1 : ∀ k, k < l.length → l.getD k 0 < nbk I n) (h2 : ∀ k, k < l.length → l'.getD k 0 < nbk I n) (h : ∀ k, k < l.length → bkn I n (l.getD k 0) = bkn I n (l'.getD k 0)) : l = l' := by
  apply List.ext_getElem hl
  intro k hk hk'
  have e1 : l.getD k 0 = l[k] := by rw [List.getD_eq_getElem?_getD, List.getElem?_eq_getElem hk]; rfl
  have e2 : l'.getD k 0 = l'[k] := by rw [List.getD_eq_getElem?_getD, List.getElem?_eq_getElem hk']; rfl
  have := bkn_inj I n _ _ (h1 k hk) (h2 k hk) (h k hk)
  rw [e1, e2] at this
  exact this
/-- What the document's Price says of a list of numbers. -/
def Prc (P : Pr) (I : Nat → Itm) (n : Nat) (X : Nat → Int) (N : Nat) (T : Int) (ok : Bool) : Prop :=
  (ok = true ∧ ∃ l : List Nat, l.length = N ∧ (∀ k, k < N → X k = (bkn I n (l.getD k 0) : Nat)) ∧ cw P 0 (-1) l = some T) ∨
  (ok = false ∧ ∀ l : List Nat, l.length = N → (∀ k, k < N → X k = (bkn I n (l.getD k 0) : Nat)) → cw P 0 (-1) l = none)
/-- Of a way. -/
theorem prc_way {P : Pr} {I : Nat → Itm} {n : Nat} (hm : P.m = nbk I n) {X : Nat → Int} {N : Nat} {T : Int} {ok : Bool} (h : Prc P I n X N T ok) {l : List Nat} {c : Int} (hl : l.length = N) (hX : ∀ k, k < N → X k = (bkn I n (l.getD k 0) : Nat)) (hc : cw P 0 (-1) l = some c) : ok = true ∧ T = c := by
  rcases h with ⟨h1, l', h2, h3, h4⟩ | ⟨h1, h2⟩
  · refine ⟨h1, ?_⟩
    have : l = l' := way_one (I := I) (n := n) (by omega) (fun k hk => hm ▸ cw_lt hc k hk) (fun k hk => hm ▸ cw_lt h4 k (by omega)) (fun k hk => by have := hX k (by omega); have := h3 k (by omega); omega)
    subst this
    rw [hc] at h4
    injection h4 with h4
    exact h4.symm
  · rw [h2 l hl hX] at hc
    cases hc
end Go.Proofs.YtkmeeblkckfepaaGreat

/-
  What the document's Same answers of breakings that are alike.
-/
namespace Go.Proofs.YtkmeeblkckfepaaGreat
open Go.RowKit
set_option linter.unusedSimpArgs false
set_option linter.unusedVariables false

set_option maxRecDepth 100000 in
set_option maxHeartbeats 4000000 in
theorem same9_any (S S' : Nat → Prop) (ao bo : Option Addr) (L : List Nat) (ca cb : Nat) (T : Int) (em : Bool) (w : World) (ha : NAt S w ao L) (hb : NAt S' w bo L) (hm : L.length ≤ 262144) :
    Calls Tryz.prog 11 #[.agg #[.slice ao L.length ca, .int .i64 T, .bool em], .agg #[.slice bo L.length cb, .int .i64 T, .bool em]] w fun e w' => e = .returned (.bool true) ∧ Below w.heap.size w w' := by
  have HA := boxed ha
  have HB := boxed hb
  clear ha hb
  obtain ⟨q0, q1, q2, q3⟩ := laid2 w (.cells #[.slice ao L.length ca, .int .i64 T, .bool em] 31) (.cells #[.slice bo L.length cb, .int .i64 T, .bool em] 31)
  obtain ⟨⟨x0, x1, x2⟩, -⟩ := cells3 q0
  obtain ⟨⟨y0, y1, y2⟩, -⟩ := cells3 q1
  have HW := boxed q2
  have HN : Box (∀ i, i < L.length → ∃ g g', ao = some ⟨g, 0, none⟩ ∧ bo = some ⟨g', 0, none⟩ ∧ ((w.alloc (.cells #[.slice ao L.length ca, .int .i64 T, .bool em] 31)).alloc (.cells #[.slice bo L.length cb, .int .i64 T, .bool em] 31)).cell? ⟨g, i, none⟩ = some (.int .i64 (L.getD i 0 : Nat)) ∧ ((w.alloc (.cells #[.slice ao L.length ca, .int .i64 T, .bool em] 31)).alloc (.cells #[.slice bo L.length cb, .int .i64 T, .bool em] 31)).cell? ⟨g', i, none⟩ = some (.int .i64 (L.getD i 0 : Nat))) := boxed (fun i hi => by
    obtain ⟨g, e, -, h1⟩ := HA.out i hi
    obtain ⟨g', e', -, h2⟩ := HB.out i hi
    exact ⟨g, g', e, e', hold q2 h1, hold q2 h2⟩)
  clear q0 q1 q2 q3 HA HB
  generalize hM : L.length = M at *
  replace hM := boxed hM
  go_enter Tryz.func11, Tryz.ntmps11
  go_wp2_with fail
  generalize hW0 : ((w.alloc (.cells #[.slice ao M ca, .int .i64 T, .bool em] 31)).alloc (.cells #[.slice bo M cb, .int .i64 T, .bool em] 31)) = W0 at *
  clear hW0
  have HX0 := boxed x0
  have HY0 := boxed y0
  clear x0 x1 x2 y0 y1 y2
  go_loopw [5] (fun iv wr => ∃ i : Nat, i ≤ M ∧ iv = .int .i64 (i : Int) ∧ Box (Below W0.heap.size W0 wr)) (fun iv _ => M - (intOf iv).toNat)
  case atStart => exact ⟨0, Nat.zero_le _, rfl, boxed (Below.refl _ _)⟩
  case round =>
    obtain ⟨i, hi, rfl, HBr⟩ := hrel
    have x0 := hold HBr.out HX0.out
    have y0 := hold HBr.out HY0.out
    by_cases hlt : i < M
    · obtain ⟨g, g', rfl, rfl, h1, h2⟩ := HN.out i hlt
      replace h1 := hold HBr.out h1
      replace h2 := hold HBr.out h2
      have t1 : decide ((i : Int) < (M : Int)) = true := decide_eq_true (by omega)
      have t1' : decide (i < M) = true := decide_eq_true hlt
      clear HN HX0 HY0
      generalize L.getD i 0 = z at *
      go_wp2_with fail
      go_quiet (fail)
      have HB2 : Box (Below W0.heap.size W0 (wr.drewN nq)) := boxed (HBr.out.trans (bel_drewN _ _ _))
      go_wp2_with fail
      go_roundw
      case rel => exact ⟨i + 1, by omega, by go_num, HB2⟩
      case measure => simp [intOf]; omega
    · have e : i = M := by omega
      subst e
      go_wp2_with fail
      go_ret
      exact ⟨rfl, HW.out.trans (HBr.out.mono HW.out.size)⟩
end Go.Proofs.YtkmeeblkckfepaaGreat
