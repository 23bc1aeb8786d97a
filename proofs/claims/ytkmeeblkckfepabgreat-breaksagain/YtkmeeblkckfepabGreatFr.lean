/-
  Plain: from the window to the choice, from the choice to the rest. No walk.
-/
import Derived.Test.YtkmeeblkckfepabGreatFq
namespace Go.Proofs.YtkmeeblkckfepabGreat
set_option linter.unusedSimpArgs false
set_option linter.unusedVariables false

section
variable {I : Nat → Itm} {n : Nat} {width : Int} {s : Stg} {R : Nat → Nat → Int × Nat} {i : Nat}
theorem rj_bnd {j : Nat} (hR : ∀ c, c < 4 → (R j c).1 = Awf ∨ (0 ≤ (R j c).1 ∧ (R j c).1 ≤ 140737488355328)) : rj I n width R i j = Awf ∨ (0 ≤ rj I n width R i j ∧ rj I n width R i j ≤ 140737488355328) := by
  have := ftb_cls I n width ((i : Int) - 1) j
  exact hR _ (by omega)
/-- A line that doesn't do changes nothing. -/
theorem chs_skip {C : Nat → Ln} {e : Nat} (h : ChS I n width s R i C e) (hd : doz I n width s ((i : Int) - 1) e = false) : ChS I n width s R i C (e + 1) := by
  intro c hc
  rcases h c hc with ⟨h1, h2⟩ | ⟨j, j1, j2, j3, j4, j5, j6, j7, j8, j9⟩
  · refine .inl ⟨h1, fun j h3 h4 h5 h6 => ?_⟩
    by_cases ce : j = e
    · subst ce; rw [hd] at h5; cases h5
    · exact h2 j h3 (by omega) h5 h6
  · refine .inr ⟨j, j1, by omega, j3, j4, j5, j6, j7, j8, fun j' h3 h4 h5 h6 h7 => ?_⟩
    by_cases ce : j' = e
    · subst ce; rw [hd] at h5; cases h5
    · exact j9 j' h3 (by omega) h5 h6 h7
/-- A line that does is taken, if it is cheaper. -/
theorem chs_take (hn : n ≤ 262144) (hok : ∀ i, i < n → okI I i = true) (hs : okS s = true) {C : Nat → Ln} {e : Nat} (h : ChS I n width s R i C e) (hie : i ≤ e) (hd : doz I n width s ((i : Int) - 1) e = true) (hR : ∀ c, c < 4 → (R e c).1 = Awf ∨ (0 ≤ (R e c).1 ∧ (R e c).1 ≤ 140737488355328)) (x : Ln)
    (hx1 : x.e = (e : Int)) (hx2 : x.c = vC I n width s R ((i : Int) - 1) e) (hx3 : x.f.over = (ftb I n width ((i : Int) - 1) e).over ∧ x.f.bad = (ftb I n width ((i : Int) - 1) e).bad ∧ x.f.cls = (ftb I n width ((i : Int) - 1) e).cls) :
    ChS I n width s R i (tkC C x (ftb I n width ((i : Int) - 1) e).cls.toNat) (e + 1) := by
  have hcl := ftb_cls I n width ((i : Int) - 1) e
  have hv := vC_less (i := i) hn hok hs (-1) e hd _ (rj_bnd (I := I) (n := n) (width := width) (i := i) hR)
  have hvc : vC I n width s R ((i : Int) - 1) e = tt (cst s (ftb I n width ((i : Int) - 1) e) (itb I n e) (-1) (itb I n ((i : Int) - 1)).flag (decide (e + 1 = nbk I n))) (rj I n width R i e) := rfl
  rw [← hvc] at hv
  generalize hk : (ftb I n width ((i : Int) - 1) e).cls.toNat = k at *
  have hkc : (ftb I n width ((i : Int) - 1) e).cls = (k : Int) := by omega
  have hk4 : k < 4 := by omega
  intro c hc
  by_cases ck : c = k
  · subst ck
    unfold tkC
    rcases h c hc with ⟨h1, h2⟩ | ⟨j, j1, j2, j3, j4, j5, j6, j7, j8, j9⟩
    · by_cases ct : x.c < (C c).c
      · rw [if_pos ct]
        rw [hx2, h1] at ct
        have hne : rj I n width R i e ≠ Awf := by
          rcases hv with hv | hv
          · rw [hv.2] at ct; exact absurd ct (Int.lt_irrefl _)
          · exact hv.1
        refine .inr ⟨e, hie, by omega, hd, hkc, hne, by simp [hx1], by simp [hx2], by simp [hx3], fun j' h3 h4 h5 h6 h7 => ?_⟩
        by_cases ce : j' = e
        · subst ce; exact .inr ⟨rfl, Nat.le_refl _⟩
        · exact absurd (h2 j' h3 (by omega) h5 h6) h7
      · rw [if_neg ct]
        rw [hx2, h1] at ct
        refine .inl ⟨h1, fun j h3 h4 h5 h6 => ?_⟩
        by_cases ce : j = e
        · subst ce
          rcases hv with hv | hv
          · exact hv.1
          · exact absurd hv.2.2 ct
        · exact h2 j h3 (by omega) h5 h6
    · by_cases ct : x.c < (C c).c
      · rw [if_pos ct]
        rw [hx2, j7] at ct
        have hvj : vC I n width s R ((i : Int) - 1) e < Awf := by
          rcases hv with hv | hv
          · exfalso
            rw [hv.2] at ct
            have : vC I n width s R ((i : Int) - 1) j ≤ Awf := Int.min_le_right _ _
            omega
          · exact hv.2.2
        have hne : rj I n width R i e ≠ Awf := by
          rcases hv with hv | hv
          · rw [hv.2] at hvj; exact absurd hvj (Int.lt_irrefl _)
          · exact hv.1
        refine .inr ⟨e, hie, by omega, hd, hkc, hne, by simp [hx1], by simp [hx2], by simp [hx3], fun j' h3 h4 h5 h6 h7 => ?_⟩
        by_cases ce : j' = e
        · subst ce; exact .inr ⟨rfl, Nat.le_refl _⟩
        · have := j9 j' h3 (by omega) h5 h6 h7
          left; omega
      · rw [if_neg ct]
        rw [hx2, j7] at ct
        refine .inr ⟨j, j1, by omega, j3, j4, j5, j6, j7, j8, fun j' h3 h4 h5 h6 h7 => ?_⟩
        by_cases ce : j' = e
        · subst ce; omega
        · exact j9 j' h3 (by omega) h5 h6 h7
  · have hC : tkC C x k c = C c := by
      unfold tkC
      split
      · simp [ck]
      · rfl
    rcases h c hc with ⟨h1, h2⟩ | ⟨j, j1, j2, j3, j4, j5, j6, j7, j8, j9⟩
    · rw [hC]
      refine .inl ⟨h1, fun j h3 h4 h5 h6 => ?_⟩
      by_cases ce : j = e
      · subst ce; omega
      · exact h2 j h3 (by omega) h5 h6
    · rw [hC]
      refine .inr ⟨j, j1, by omega, j3, j4, j5, j6, j7, j8, fun j' h3 h4 h5 h6 h7 => ?_⟩
      by_cases ce : j' = e
      · subst ce; omega
      · exact j9 j' h3 (by omega) h5 h6 h7
/-- The hopeful lines. -/
theorem chs_hfu (hn : n ≤ 262144) (hok : ∀ i, i < n → okI I i = true) (hs : okS s = true) {C : Nat → Ln} {nr : Nat} (h : ChS I n width s R i C nr) (hi : i ≤ nr) (e : Nat) (he : nr ≤ e) (hR : ∀ j, i ≤ j → j < e → ∀ c, c < 4 → (R j c).1 = Awf ∨ (0 ≤ (R j c).1 ∧ (R j c).1 ≤ 140737488355328)) : ChS I n width s R i (hfu I n width s R ((i : Int) - 1) nr e C) e := by
  induction e with
  | zero =>
    have : nr = 0 := by omega
    subst this
    exact h
  | succ e ih =>
    by_cases c : nr ≤ e
    · have h1 := ih c (fun j hj1 hj2 => hR j hj1 (by omega))
      rw [hfu_step I n width s R ((i : Int) - 1) nr e c]
      unfold hst
      cases hd : doz I n width s ((i : Int) - 1) e
      · rw [if_neg (by simp)]; exact chs_skip h1 hd
      · rw [if_pos rfl]; exact chs_take hn hok hs h1 (by omega) hd (hR e (by omega) (by omega)) _ rfl rfl ⟨rfl, rfl, rfl⟩
    · have : nr = e + 1 := by omega
      subst this
      rw [hfu_le I n width s R ((i : Int) - 1) (e + 1) (e + 1) (Nat.le_refl _)]
      exact h
/-- The hopeless ones, by their window. -/
theorem chs_hop (hn : n ≤ 262144) (hok : ∀ i, i < n → okI I i = true) (hs : okS s = true) (hw : 1 ≤ width ∧ width ≤ 1073741824) {nr : Nat} (hi : i ≤ nr) (hnm : nr ≤ nbk I n) (hh : nr = i ∨ hpl I n width ((i : Int) - 1) ((nr - 1 : Nat) : Int) = true) (hR : ∀ j, i ≤ j → j < nr → ∀ c, c < 4 → (R j c).1 = Awf ∨ (0 ≤ (R j c).1 ∧ (R j c).1 ≤ 140737488355328)) (L : List (Nat × Int))
    (hL : (s.t = 10000 ∧ Good (fun e => uC I n s (itb I n ((i : Int) - 1)).flag e (R e 3).1) i nr L) ∨ (s.t ≠ 10000 ∧ L = [])) : ChS I n width s R i (hop (fun _ => Ln.none) L) nr := by
  have hst := (okS_iff s).1 hs
  -- all of them are hopeless
  have hall : ∀ j, i ≤ j → j < nr → (ftb I n width ((i : Int) - 1) j).bad = 10000 ∧ (ftb I n width ((i : Int) - 1) j).cls = 3 ∧ (ftb I n width ((i : Int) - 1) j).over = false := by
    intro j h1 h2
    rcases hh with hh | hh
    · omega
    · exact hpl_fit I n hn hok width _ j hw (by omega) (hpl_less I n hok width _ j (nr - 1) (by omega) (by omega) hh)
  rcases hL with ⟨ht, hG⟩ | ⟨ht, rfl⟩
  · have hdo : ∀ j, i ≤ j → j < nr → doz I n width s ((i : Int) - 1) j = true := by
      intro j h1 h2
      obtain ⟨a1, a2, a3⟩ := hall j h1 h2
      simp [doz, a1, a3, ht]
    have hvu : ∀ j, i ≤ j → j < nr → vC I n width s R ((i : Int) - 1) j = uC I n s (itb I n ((i : Int) - 1)).flag j (R j 3).1 ∧ rj I n width R i j = (R j 3).1 := by
      intro j h1 h2
      obtain ⟨a1, a2, a3⟩ := hall j h1 h2
      unfold vC uC rj
      rw [cst_like s (ftb I n width ((i : Int) - 1) j) wF (itb I n j) (-1) (itb I n ((i : Int) - 1)).flag (decide (j + 1 = nbk I n)) a3 a1 a2, a2]
      exact ⟨rfl, rfl⟩
    cases L with
    | nil =>
      have := good_empty hG
      obtain rfl : nr = i := by omega
      exact chs_start
    | cons x M =>
      obtain ⟨⟨x1, x2, x3⟩, hmin⟩ := good_head hG
      have hvx := vC_less (i := i) hn hok hs (-1) x.1 (hdo x.1 x1 x2) _ (rj_bnd (I := I) (n := n) (width := width) (i := i) (hR x.1 x1 x2))
      have hvc : vC I n width s R ((i : Int) - 1) x.1 = tt (cst s (ftb I n width ((i : Int) - 1) x.1) (itb I n x.1) (-1) (itb I n ((i : Int) - 1)).flag (decide (x.1 + 1 = nbk I n))) (rj I n width R i x.1) := rfl
      rw [← hvc] at hvx
      have hxv : x.2 = vC I n width s R ((i : Int) - 1) x.1 := by rw [(hvu x.1 x1 x2).1]; exact x3
      obtain ⟨a1, a2, a3⟩ := hall x.1 x1 x2
      show ChS I n width s R i (tkC (fun _ => Ln.none) ⟨x.1, wF, x.2⟩ 3) nr
      unfold tkC
      by_cases ct : x.2 < Awf
      · rw [if_pos (by show x.2 < Awf; exact ct)]
        have hne : rj I n width R i x.1 ≠ Awf := by
          rcases hvx with hvx | hvx
          · rw [hxv, hvx.2] at ct; exact absurd ct (Int.lt_irrefl _)
          · exact hvx.1
        intro c hc
        by_cases ck : c = 3
        · subst ck
          refine .inr ⟨x.1, x1, x2, hdo x.1 x1 x2, by rw [a2]; rfl, hne, by simp, by simp [hxv], by simp [wF, a1, a2, a3], fun j' h3 h4 h5 h6 h7 => ?_⟩
          have := hmin j' h3 h4
          rw [← (hvu j' h3 h4).1, hxv] at this
          exact this
        · simp only [if_neg ck]
          refine .inl ⟨rfl, fun j h3 h4 h5 h6 => ?_⟩
          have := (hall j h3 h4).2.1
          omega
      · rw [if_neg (by show ¬ x.2 < Awf; exact ct)]
        intro c hc
        refine .inl ⟨rfl, fun j h3 h4 h5 h6 => ?_⟩
        have h7 := hmin j h3 h4
        rw [← (hvu j h3 h4).1] at h7
        have hvj := vC_less (i := i) hn hok hs (-1) j h5 _ (rj_bnd (I := I) (n := n) (width := width) (i := i) (hR j h3 h4))
        have hvc : vC I n width s R ((i : Int) - 1) j = tt (cst s (ftb I n width ((i : Int) - 1) j) (itb I n j) (-1) (itb I n ((i : Int) - 1)).flag (decide (j + 1 = nbk I n))) (rj I n width R i j) := rfl
        rw [← hvc] at hvj
        rcases hvj with hvj | hvj
        · exact hvj.1
        · omega
  · intro c hc
    refine .inl ⟨rfl, fun j h3 h4 h5 h6 => ?_⟩
    obtain ⟨a1, a2, a3⟩ := hall j h3 h4
    simp [doz, a1] at h5
    omega
/-- Lines that are too wide don't do. -/
theorem chs_wide (hn : n ≤ 262144) (hok : ∀ i, i < n → okI I i = true) {C : Nat → Ln} {st bd : Nat} (h : ChS I n width s R i C st) (hb : bd ≤ nbk I n) (hsb : st ≤ bd) (hst : st = bd ∨ width < (upt I n (bk I n ((i : Int) - 1)) (bk I n st)).w - (upt I n (bk I n ((i : Int) - 1)) (bk I n st)).sh) : ChS I n width s R i C bd := by
  rcases hst with rfl | hst
  · exact h
  · have hno : ∀ j, st ≤ j → j < bd → doz I n width s ((i : Int) - 1) j = false := by
      intro j h1 h2
      have := wide_over I n hn hok width ((i : Int) - 1) st j h1 (by omega) hst
      simp [doz, this]
    intro c hc
    rcases h c hc with ⟨h1, h2⟩ | ⟨j, j1, j2, j3, j4, j5, j6, j7, j8, j9⟩
    · refine .inl ⟨h1, fun j h3 h4 h5 h6 => ?_⟩
      by_cases ce : j < st
      · exact h2 j h3 ce h5 h6
      · rw [hno j (by omega) h4] at h5; cases h5
    · refine .inr ⟨j, j1, by omega, j3, j4, j5, j6, j7, j8, fun j' h3 h4 h5 h6 h7 => ?_⟩
      by_cases ce : j' < st
      · exact j9 j' h3 ce h5 h6 h7
      · rw [hno j' (by omega) h4] at h5; cases h5
/-- The cheapest of a choice is the rest's first line. -/
theorem chp_rst (hn : n ≤ 262144) (hok : ∀ i, i < n → okI I i = true) (hs : okS s = true) {C : Nat → Ln} {bd : Nat} (h : ChS I n width s R i C bd) (hi : i < bd) (hb : bd ≤ nbk I n) (hf1 : ∀ q, i ≤ q → q + 1 < bd → forc (itb I n q) = false) (hf2 : forc (itb I n ((bd - 1 : Nat) : Int)) = true)
    (hR : ∀ j, i ≤ j → j < nbk I n → ∀ c : Nat, c < 4 → Rst (PT I n width s s.t) (j + 1) (c : Int) (R j c).1 (R j c).2) (a : Int) :
    ∃ nx : Nat, (chp I n s R C a (itb I n ((i : Int) - 1)).flag 4).2 = (nx : Int) ∧ Rst (PT I n width s s.t) i a (chp I n s R C a (itb I n ((i : Int) - 1)).flag 4).1 nx := by
  have hB := bnd_of I n width s s.t hn hok hs
  have hRb : ∀ j, i ≤ j → j < nbk I n → ∀ c, c < 4 → (R j c).1 = Awf ∨ (0 ≤ (R j c).1 ∧ (R j c).1 ≤ 140737488355328) := fun j h1 h2 c hc => rst_bnd hB (hR j h1 h2 c hc)
  -- which lines there may be
  have hmay : ∀ j, mayL (PT I n width s s.t) i j = true ↔ i ≤ j ∧ j < bd ∧ doz I n width s ((i : Int) - 1) j = true := by
    intro j
    rw [mayL_iff]
    constructor
    · rintro ⟨h1, h2, h3, h4⟩
      refine ⟨h1, ?_, h3⟩
      by_cases c : j < bd
      · exact c
      · have := h4 (bd - 1) (by omega) (by omega)
        simp only [PT] at this
        rw [hf2] at this; cases this
    · rintro ⟨h1, h2, h3⟩
      exact ⟨h1, by simp only [PT]; omega, h3, fun q hq1 hq2 => hf1 q hq2 (by omega)⟩
  have hct : ∀ j, (PT I n width s s.t).ct i j a = cst s (ftb I n width ((i : Int) - 1) j) (itb I n j) a (itb I n ((i : Int) - 1)).flag (decide (j + 1 = nbk I n)) := fun j => rfl
  -- what a class's line costs
  have hcq : ∀ c, c < 4 → (C c).c ≠ Awf → ∃ j, (i ≤ j ∧ j < bd ∧ doz I n width s ((i : Int) - 1) j = true) ∧ (ftb I n width ((i : Int) - 1) j).cls = (c : Int) ∧ rj I n width R i j ≠ Awf ∧ (C c).e = (j : Int) ∧ cq I n s R C a (itb I n ((i : Int) - 1)).flag c = tt ((PT I n width s s.t).ct i j a) (rj I n width R i j) ∧ cq I n s R C a (itb I n ((i : Int) - 1)).flag c < Awf ∧
      ∀ j', i ≤ j' → j' < bd → doz I n width s ((i : Int) - 1) j' = true → (ftb I n width ((i : Int) - 1) j').cls = (c : Int) → rj I n width R i j' ≠ Awf → cq I n s R C a (itb I n ((i : Int) - 1)).flag c < tt ((PT I n width s s.t).ct i j' a) (rj I n width R i j') ∨ (cq I n s R C a (itb I n ((i : Int) - 1)).flag c = tt ((PT I n width s s.t).ct i j' a) (rj I n width R i j') ∧ j ≤ j') := by
    intro c hc hA
    rcases h c hc with ⟨h1, h2⟩ | ⟨j, j1, j2, j3, j4, j5, j6, j7, ⟨j8, j8b, j8c⟩, j9⟩
    · exact absurd h1 hA
    · have e1 : cq I n s R C a (itb I n ((i : Int) - 1)).flag c = tt ((PT I n width s s.t).ct i j a) (rj I n width R i j) := by
        unfold cq rj
        rw [hct, j6, cst_like s (C c).f (ftb I n width ((i : Int) - 1) j) (itb I n j) a (itb I n ((i : Int) - 1)).flag _ j8 j8b j8c, j8c]
        simp only [Int.toNat_natCast]
        congr 2
        rw [Bool.eq_iff_iff]; simp; omega
      have hv := vC_less (i := i) hn hok hs a j j3 _ (rj_bnd (I := I) (n := n) (width := width) (i := i) (hRb j j1 (by omega)))
      rw [← hct] at hv
      have hv1 := vC_less (i := i) hn hok hs (-1) j j3 _ (rj_bnd (I := I) (n := n) (width := width) (i := i) (hRb j j1 (by omega)))
      have hvc : ∀ j, vC I n width s R ((i : Int) - 1) j = tt (cst s (ftb I n width ((i : Int) - 1) j) (itb I n j) (-1) (itb I n ((i : Int) - 1)).flag (decide (j + 1 = nbk I n))) (rj I n width R i j) := fun j => rfl
      rw [← hvc] at hv1
      rcases hv with hv | ⟨-, hv2, hv3⟩
      · exact absurd hv.1 j5
      rcases hv1 with hv1 | ⟨-, hv12, hv13⟩
      · exact absurd hv1.1 j5
      refine ⟨j, ⟨j1, j2, j3⟩, j4, j5, j6, e1, by rw [e1]; exact hv3, fun j' h3 h4 h5 h6 h7 => ?_⟩
      have hw := vC_less (i := i) hn hok hs a j' h5 _ (rj_bnd (I := I) (n := n) (width := width) (i := i) (hRb j' h3 (by omega)))
      rw [← hct] at hw
      have hw1 := vC_less (i := i) hn hok hs (-1) j' h5 _ (rj_bnd (I := I) (n := n) (width := width) (i := i) (hRb j' h3 (by omega)))
      rw [← hvc] at hw1
      rcases hw with hw | ⟨-, hw2, hw3⟩
      · exact absurd hw.1 h7
      rcases hw1 with hw1 | ⟨-, hw12, hw13⟩
      · exact absurd hw1.1 h7
      have := j9 j' h3 h4 h5 h6 h7
      rw [e1, hv2, hw2]
      rw [hv12, hw12] at this
      rw [j4] at this ⊢
      rw [h6] at this ⊢
      omega
  -- the cheapest of the first classes
  have hchp : ∀ k, k ≤ 4 → ((chp I n s R C a (itb I n ((i : Int) - 1)).flag k = (Awf, 0) ∧ ∀ c, c < k → (C c).c = Awf) ∨ ∃ c, c < k ∧ (C c).c ≠ Awf ∧ chp I n s R C a (itb I n ((i : Int) - 1)).flag k = (cq I n s R C a (itb I n ((i : Int) - 1)).flag c, (C c).e) ∧ ∀ c', c' < k → (C c').c ≠ Awf → cq I n s R C a (itb I n ((i : Int) - 1)).flag c < cq I n s R C a (itb I n ((i : Int) - 1)).flag c' ∨ (cq I n s R C a (itb I n ((i : Int) - 1)).flag c = cq I n s R C a (itb I n ((i : Int) - 1)).flag c' ∧ (C c).e ≤ (C c').e)) := by
    intro k
    induction k with
    | zero => intro _; exact .inl ⟨rfl, fun c hc => by omega⟩
    | succ k ih =>
      intro hk
      simp only [chp]
      by_cases cA : (C k).c = Awf
      · rw [if_pos cA]
        rcases ih (by omega) with ⟨h1, h2⟩ | ⟨c, h1, h2, h3, h4⟩
        · refine .inl ⟨h1, fun c hc => ?_⟩
          by_cases ce : c = k
          · subst ce; exact cA
          · exact h2 c (by omega)
        · refine .inr ⟨c, by omega, h2, h3, fun c' hc' hA' => ?_⟩
          by_cases ce : c' = k
          · subst ce; exact absurd cA hA'
          · exact h4 c' (by omega) hA'
      · rw [if_neg cA]
        have hlt : cq I n s R C a (itb I n ((i : Int) - 1)).flag k < Awf := by obtain ⟨j, -, -, -, -, -, h6, -⟩ := hcq k (by omega) cA; exact h6
        rcases ih (by omega) with ⟨h1, h2⟩ | ⟨c, h1, h2, h3, h4⟩
        · rw [h1, if_pos (.inl hlt)]
          refine .inr ⟨k, by omega, cA, rfl, fun c' hc' hA' => ?_⟩
          by_cases ce : c' = k
          · subst ce; exact .inr ⟨rfl, Int.le_refl _⟩
          · exact absurd (h2 c' (by omega)) hA'
        · rw [h3]
          simp only
          split
          · rename_i hcond
            refine .inr ⟨k, by omega, cA, rfl, fun c' hc' hA' => ?_⟩
            by_cases ce : c' = k
            · subst ce; exact .inr ⟨rfl, Int.le_refl _⟩
            · have := h4 c' (by omega) hA'
              omega
          · rename_i hcond
            refine .inr ⟨c, by omega, h2, rfl, fun c' hc' hA' => ?_⟩
            by_cases ce : c' = k
            · subst ce; omega
            · exact h4 c' (by omega) hA'
  have hRs : ∀ j, mayL (PT I n width s s.t) i j = true → Rst (PT I n width s s.t) (j + 1) ((PT I n width s s.t).kl i j) (rj I n width R i j) (R j (ftb I n width ((i : Int) - 1) j).cls.toNat).2 := by
    intro j hj
    obtain ⟨h1, h2, -⟩ := (hmay j).1 hj
    have hcl := ftb_cls I n width ((i : Int) - 1) j
    have := hR j h1 (by omega) (ftb I n width ((i : Int) - 1) j).cls.toNat (by omega)
    rw [show (((ftb I n width ((i : Int) - 1) j).cls.toNat : Nat) : Int) = (ftb I n width ((i : Int) - 1) j).cls by omega] at this
    exact this
  have hcls : ∀ j, ∃ c : Nat, c < 4 ∧ (ftb I n width ((i : Int) - 1) j).cls = (c : Int) := fun j => ⟨(ftb I n width ((i : Int) - 1) j).cls.toNat, by have := ftb_cls I n width ((i : Int) - 1) j; omega, by have := ftb_cls I n width ((i : Int) - 1) j; omega⟩
  rcases hchp 4 (Nat.le_refl _) with ⟨h1, h2⟩ | ⟨c, h1, h2, h3, h4⟩
  · refine ⟨0, by rw [h1]; rfl, rst_step _ hB i (by simp only [PT]; omega) a (rj I n width R i) _ hRs _ 0 (.inl ⟨by rw [h1], fun j hj => ?_⟩)⟩
    obtain ⟨a1, a2, a3⟩ := (hmay j).1 hj
    obtain ⟨c, hc, ec⟩ := hcls j
    rcases h c hc with ⟨q1, q2⟩ | ⟨j', p1, p2, p3, p4, p5, p6, p7, p8, p9⟩
    · exact q2 j a1 a2 a3 ec
    · exfalso
      have := vC_less (i := i) hn hok hs (-1) j' p3 _ (rj_bnd (I := I) (n := n) (width := width) (i := i) (hRb j' p1 (by omega)))
      rcases this with this | ⟨-, -, this⟩
      · exact p5 this.1
      · have hcc := h2 c hc
        rw [p7] at hcc
        have e : vC I n width s R ((i : Int) - 1) j' = tt (cst s (ftb I n width ((i : Int) - 1) j') (itb I n j') (-1) (itb I n ((i : Int) - 1)).flag (decide (j' + 1 = nbk I n))) (rj I n width R i j') := rfl
        rw [← e, hcc] at this
        exact absurd this (Int.lt_irrefl _)
  · obtain ⟨j, q1, q2, q3, q4, q5, q6, q7⟩ := hcq c h1 h2
    refine ⟨j, by rw [h3]; exact q4, rst_step _ hB i (by simp only [PT]; omega) a (rj I n width R i) _ hRs _ j (.inr ⟨(hmay j).2 q1, q3, by rw [h3]; exact q5, fun j' hj' hne => ?_⟩)⟩
    rw [h3]
    simp only
    obtain ⟨a1, a2, a3⟩ := (hmay j').1 hj'
    obtain ⟨c', hc', ec'⟩ := hcls j'
    have hA' : (C c').c ≠ Awf := by
      rcases h c' hc' with ⟨p1, p2⟩ | ⟨j2, p1, p2, p3, p4, p5, p6, p7, p8, p9⟩
      · exact absurd (p2 j' a1 a2 a3 ec') hne
      · have := vC_less (i := i) hn hok hs (-1) j2 p3 _ (rj_bnd (I := I) (n := n) (width := width) (i := i) (hRb j2 p1 (by omega)))
        rcases this with this | ⟨-, -, this⟩
        · exact absurd this.1 p5
        · rw [p7]
          intro e
          have e2 : vC I n width s R ((i : Int) - 1) j2 = tt (cst s (ftb I n width ((i : Int) - 1) j2) (itb I n j2) (-1) (itb I n ((i : Int) - 1)).flag (decide (j2 + 1 = nbk I n))) (rj I n width R i j2) := rfl
          rw [← e2, e] at this
          exact absurd this (Int.lt_irrefl _)
    obtain ⟨j2, p1, p2, p3, p4, p5, p6, p7⟩ := hcq c' hc' hA'
    have r1 := h4 c' hc' hA'
    have r2 := p7 j' a1 a2 a3 ec' hne
    rw [q4, p4] at r1
    omega
end
end Go.Proofs.YtkmeeblkckfepabGreat
