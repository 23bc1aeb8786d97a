/-
  Pages laid again, in plain words: lines put in the place of others, which pages stay, and which are built. No program in it.
-/
import Derived.Test.YtdpjaafdpgkclaaHa
namespace Go.Proofs.Ytdpjaafdpgkclaa
set_option linter.unusedSimpArgs false
set_option linter.unusedVariables false

/-- The lines, where g of them from f on are the m lines C now. -/
def put (F : Nat → Slt) (f g m : Nat) (C : Nat → Slt) (k : Nat) : Slt := if k < f then F k else if k < f + m then C (k - f) else F (k - m + g)
theorem put_lo {F : Nat → Slt} {f g m : Nat} {C : Nat → Slt} {k : Nat} (h : k < f) : put F f g m C k = F k := by unfold put; rw [if_pos h]
theorem put_in {F : Nat → Slt} {f g m : Nat} {C : Nat → Slt} {k : Nat} (h : k < m) : put F f g m C (f + k) = C k := by
  unfold put; rw [if_neg (by omega), if_pos (by omega), show f + k - f = k by omega]
theorem put_hi {F : Nat → Slt} {f g m : Nat} {C : Nat → Slt} (x : Nat) : put F f g m C (f + m + x) = F (f + g + x) := by
  unfold put; rw [if_neg (by omega), if_neg (by omega), show f + m + x - m + g = f + g + x by omega]
def Dc.put (D : Dc) (f g m : Nat) (C : Nat → Slt) : Dc := ⟨Go.Proofs.Ytdpjaafdpgkclaa.put D.F f g m C, D.n - g + m, D.o, D.v, D.H⟩
theorem hi_put (D : Dc) (f g m : Nat) (C : Nat → Slt) (x M : Nat) : hi (D.put f g m C).F (f + m + x) M = hi D.F (f + g + x) M := by
  induction M with
  | zero => rfl
  | succ M ih =>
    show hi _ _ M + ((D.put f g m C).F (f + m + x + M)).h = hi _ _ M + (D.F (f + g + x + M)).h
    rw [ih]
    have : (D.put f g m C).F (f + m + x + M) = D.F (f + g + x + M) := by
      show Go.Proofs.Ytdpjaafdpgkclaa.put D.F f g m C _ = _
      rw [show f + m + x + M = f + m + (x + M) by omega, put_hi, show f + g + (x + M) = f + g + x + M by omega]
    rw [this]
theorem cut_put (D : Dc) (f g m : Nat) (C : Nat → Slt) (h : f + g ≤ D.n) (x : Nat) : (D.put f g m C).cut (f + m + x + 1) = D.cut (f + g + x + 1) := by
  unfold Dc.cut
  have e : (D.put f g m C).F (f + m + x + 1 - 1) = D.F (f + g + x + 1 - 1) := by
    show Go.Proofs.Ytdpjaafdpgkclaa.put D.F f g m C _ = _
    rw [show f + m + x + 1 - 1 = f + m + x by omega, put_hi, show f + g + x + 1 - 1 = f + g + x by omega]
  have e1 : (f + m + x + 1 = (D.put f g m C).n) = (f + g + x + 1 = D.n) := by
    apply propext
    show f + m + x + 1 = D.n - g + m ↔ _
    omega
  have e2 : (f + m + x + 1 < (D.put f g m C).n) = (f + g + x + 1 < D.n) := by
    apply propext
    show f + m + x + 1 < D.n - g + m ↔ _
    omega
  have e3 : (0 < f + m + x + 1) = (0 < f + g + x + 1) := by apply propext; omega
  simp only [e, e1, e2, e3]
  rfl
theorem nxr_put (D : Dc) (f g m : Nat) (C : Nat → Slt) (h : f + g ≤ D.n) (x M : Nat) : (D.put f g m C).nxr (f + m + x) M + g = D.nxr (f + g + x) M + m := by
  induction M with
  | zero => show f + m + x + g = f + g + x + m; omega
  | succ M ih =>
    have e1 : (D.put f g m C).nxr (f + m + x) (M + 1) = if (D.put f g m C).cut (f + m + x + M + 1) = true ∧ ((D.put f g m C).nxr (f + m + x) M = f + m + x ∨ hi (D.put f g m C).F (f + m + x) (M + 1) ≤ (D.put f g m C).H) then f + m + x + M + 1 else (D.put f g m C).nxr (f + m + x) M := rfl
    have e2 : D.nxr (f + g + x) (M + 1) = if D.cut (f + g + x + M + 1) = true ∧ (D.nxr (f + g + x) M = f + g + x ∨ hi D.F (f + g + x) (M + 1) ≤ D.H) then f + g + x + M + 1 else D.nxr (f + g + x) M := rfl
    have e3 : (D.put f g m C).cut (f + m + x + M + 1) = D.cut (f + g + x + M + 1) := by
      have := cut_put D f g m C h (x + M)
      rw [show f + m + (x + M) + 1 = f + m + x + M + 1 by omega, show f + g + (x + M) + 1 = f + g + x + M + 1 by omega] at this
      exact this
    rw [e1, e2, e3, hi_put]
    have e4 : ((D.put f g m C).nxr (f + m + x) M = f + m + x) = (D.nxr (f + g + x) M = f + g + x) := by apply propext; omega
    simp only [e4]
    show (if D.cut (f + g + x + M + 1) = true ∧ (D.nxr (f + g + x) M = f + g + x ∨ hi D.F (f + g + x) (M + 1) ≤ D.H) then _ else _) + g = _
    split <;> omega
/-- Where a page ends hangs on no line ahead of it. -/
theorem nx_put (D : Dc) (f g m : Nat) (C : Nat → Slt) (h : f + g ≤ D.n) (a b : Nat) (hb : f + g ≤ b) (e : a + g = b + m) (hn : b ≤ D.n) : (D.put f g m C).nx a + g = D.nx b + m := by
  obtain ⟨x, rfl⟩ : ∃ x, b = f + g + x := ⟨b - (f + g), by omega⟩
  obtain rfl : a = f + m + x := by omega
  unfold Dc.nx
  have : (D.put f g m C).n - (f + m + x) = D.n - (f + g + x) := by show D.n - g + m - _ = _; omega
  rw [this]
  exact nxr_put D f g m C h x _
theorem Dc.it_up (D : Dc) (j i : Nat) : D.it j ≤ D.it (j + i) := by
  induction i with
  | zero => exact Nat.le_refl _
  | succ i ih =>
    show _ ≤ D.nx (D.it (j + i))
    by_cases c : D.it (j + i) < D.n
    · have := (D.nx_gt _ c).1; omega
    · rw [D.nx_end _ (by omega)]; exact ih
theorem Dc.it_mono (D : Dc) {j k : Nat} (h : j ≤ k) : D.it j ≤ D.it k := by
  have := D.it_up j (k - j)
  rwa [show j + (k - j) = k by omega] at this
theorem Dc.it_lt (D : Dc) {J j k : Nat} (hP : D.Pgs J) (h : j < k) (hk : k ≤ J) : D.it j < D.it k := by
  have h1 := (D.nx_gt _ (hP.1 j (by omega))).1
  have h2 : D.it (j + 1) ≤ D.it k := D.it_mono (by omega)
  have h3 : D.it (j + 1) = D.nx (D.it j) := rfl
  omega
theorem it_found (D : Dc) (f g m : Nat) (C : Nat → Slt) (h : f + g ≤ D.n) (q' q : Nat) (hq : f + g ≤ D.it q) (e : (D.put f g m C).it q' + g = D.it q + m) (i : Nat) : (D.put f g m C).it (q' + i) + g = D.it (q + i) + m := by
  induction i with
  | zero => exact e
  | succ i ih =>
    show (D.put f g m C).nx ((D.put f g m C).it (q' + i)) + g = D.nx (D.it (q + i)) + m
    have h1 : D.it q ≤ D.it (q + i) := D.it_up q i
    exact nx_put D f g m C h _ _ (by omega) ih (D.it_le _)
/-- Once set, where the next page begins stays. -/
theorem Dc.nxr_hold (D : Dc) (a b M : Nat) (h : D.nxr a M = b) (ha : a < b) : ∀ k, b - a ≤ k → k ≤ M → D.nxr a k = b := by
  induction M with
  | zero => have : D.nxr a 0 = a := rfl
            omega
  | succ M ih =>
    intro k h1 h2
    by_cases c : k = M + 1
    · subst c; exact h
    · have e : D.nxr a (M + 1) = if D.cut (a + M + 1) = true ∧ (D.nxr a M = a ∨ hi D.F a (M + 1) ≤ D.H) then a + M + 1 else D.nxr a M := rfl
      rw [e] at h
      split at h
      · omega
      · exact ih h k h1 (by omega)
theorem hi_lo (D : Dc) (f g m : Nat) (C : Nat → Slt) (a M : Nat) (h : a + M ≤ f) : hi (D.put f g m C).F a M = hi D.F a M := by
  induction M with
  | zero => rfl
  | succ M ih =>
    show hi _ _ M + ((D.put f g m C).F (a + M)).h = hi _ _ M + (D.F (a + M)).h
    rw [ih (by omega)]
    have : (D.put f g m C).F (a + M) = D.F (a + M) := put_lo (by omega)
    rw [this]
theorem cut_lo (D : Dc) (f g m : Nat) (C : Nat → Slt) (h : f + g ≤ D.n) (k : Nat) (hk : k < f) : (D.put f g m C).cut k = D.cut k := by
  unfold Dc.cut
  have e1 : (k = (D.put f g m C).n) = (k = D.n) := by
    apply propext
    show k = D.n - g + m ↔ _
    omega
  have e2 : (k < (D.put f g m C).n) = (k < D.n) := by
    apply propext
    show k < D.n - g + m ↔ _
    omega
  by_cases c : 0 < k
  · have e : (D.put f g m C).F (k - 1) = D.F (k - 1) := put_lo (by omega)
    simp only [e, e1, e2]
    rfl
  · simp only [e1, e2, decide_eq_false c, Bool.false_and]
theorem nxr_lo (D : Dc) (f g m : Nat) (C : Nat → Slt) (h : f + g ≤ D.n) (a M : Nat) (hM : a + M < f) : (D.put f g m C).nxr a M = D.nxr a M := by
  induction M with
  | zero => rfl
  | succ M ih =>
    have e1 : (D.put f g m C).nxr a (M + 1) = if (D.put f g m C).cut (a + M + 1) = true ∧ ((D.put f g m C).nxr a M = a ∨ hi (D.put f g m C).F a (M + 1) ≤ (D.put f g m C).H) then a + M + 1 else (D.put f g m C).nxr a M := rfl
    have e2 : D.nxr a (M + 1) = if D.cut (a + M + 1) = true ∧ (D.nxr a M = a ∨ hi D.F a (M + 1) ≤ D.H) then a + M + 1 else D.nxr a M := rfl
    rw [e1, e2, ih (by omega), cut_lo D f g m C h _ (by omega), hi_lo D f g m C a (M + 1) (by omega)]
    rfl
/-- A page that ended where it did for what lies ahead of the lines that changed ends there still. -/
theorem nx_lo (D : Dc) (f g m : Nat) (C : Nat → Slt) (h : f + g ≤ D.n) (hp : ∀ j, j < (D.put f g m C).n → 1 ≤ ((D.put f g m C).F j).h) (a : Nat) (ha : a < D.n) (hb : D.nx a < D.n) (hc : D.nx (D.nx a) ≤ f) : (D.put f g m C).nx a = D.nx a := by
  have h1 := D.nx_gt a ha
  have h2 := D.nx_gt (D.nx a) hb
  obtain ⟨b, hbe⟩ : ∃ b, D.nx a = b := ⟨_, rfl⟩
  rw [hbe] at h1 h2 hc hb ⊢
  obtain ⟨c, hce⟩ : ∃ c, D.nx b = c := ⟨_, rfl⟩
  rw [hce] at h2 hc
  have hnx : D.nxr a (D.n - a) = b := hbe
  have k1 : D.nxr a (c - 1 - a) = b := D.nxr_hold a b _ hnx h1.1 _ (by omega) (by omega)
  have k2 : (D.put f g m C).nxr a (c - 1 - a) = b := by rw [nxr_lo D f g m C h a _ (by omega)]; exact k1
  have k3 : D.H < hi D.F a (c - a) := D.nxr_best a (D.n - a) c (by omega) (by omega) h2.2.2
  have hn : f ≤ (D.put f g m C).n := by show f ≤ D.n - g + m; omega
  have k4 : (D.put f g m C).nxr a ((D.put f g m C).n - a) = (D.put f g m C).nxr a (c - 1 - a) := by
    refine (D.put f g m C).nxr_stay a (c - 1 - a) ((D.put f g m C).n - a) hp (by omega) (by omega) ?_ (by omega)
    rw [show c - 1 - a + 1 = c - a by omega, hi_lo D f g m C a (c - a) (by omega)]
    exact k3
  unfold Dc.nx
  rw [k4, k2]
/-- The pages up to p begin where they began. -/
theorem it_ahead (D : Dc) (f g m : Nat) (C : Nat → Slt) (h : f + g ≤ D.n) (hp : ∀ j, j < (D.put f g m C).n → 1 ≤ ((D.put f g m C).F j).h) (p : Nat) (hq : p = 0 ∨ (D.it (p + 1) < D.n ∧ D.it (p + 1) ≤ f)) : ∀ k, k ≤ p → (D.put f g m C).it k = D.it k := by
  intro k
  induction k with
  | zero => intro _; rfl
  | succ k ih =>
    intro hk
    have h0 : p ≠ 0 := by omega
    obtain ⟨q1, q2⟩ : D.it (p + 1) < D.n ∧ D.it (p + 1) ≤ f := by
      rcases hq with hq | hq
      · exact absurd hq h0
      · exact hq
    have m1 : D.it (k + 2) ≤ D.it (p + 1) := D.it_mono (by omega)
    have m2 : D.it (k + 1) ≤ D.it (k + 2) := D.it_mono (by omega)
    have m3 : D.it k ≤ D.it (k + 1) := D.it_mono (by omega)
    show (D.put f g m C).nx ((D.put f g m C).it k) = D.nx (D.it k)
    rw [ih (by omega)]
    exact nx_lo D f g m C h hp _ (by omega) (by show D.it (k + 1) < _; omega) (by show D.it (k + 2) ≤ _; omega)
/-- A page began there ahead of the call, behind the lines that went. -/
def Kn (D : Dc) (J f g m line : Nat) : Prop := ∃ q, q < J ∧ f + g ≤ D.it q ∧ line + g = D.it q + m
/-- So many pages are built, from page p on. -/
def Bl (D : Dc) (J f g m : Nat) (C : Nat → Slt) (J' p bl : Nat) : Prop := p + bl ≤ J' ∧ (∀ i, i < bl → ¬ Kn D J f g m ((D.put f g m C).it (p + i))) ∧ (p + bl = J' ∨ Kn D J f g m ((D.put f g m C).it (p + bl)))
theorem Bl.one {D : Dc} {J f g m : Nat} {C : Nat → Slt} {J' p bl bl' : Nat} (h : Bl D J f g m C J' p bl) (k : Bl D J f g m C J' p bl') : bl = bl' := by
  obtain ⟨h1, h2, h3⟩ := h
  obtain ⟨k1, k2, k3⟩ := k
  rcases Nat.lt_trichotomy bl bl' with c | c | c
  · rcases h3 with h3 | h3
    · omega
    · exact absurd h3 (k2 _ c)
  · exact c
  · rcases k3 with k3 | k3
    · omega
    · exact absurd k3 (h2 _ c)
theorem found_pgs (D : Dc) (J f g m : Nat) (C : Nat → Slt) (h : f + g ≤ D.n) (hP : D.Pgs J) (q' q : Nat) (hqJ : q < J) (hq : f + g ≤ D.it q) (e : (D.put f g m C).it q' + g = D.it q + m) (hl : ∀ i, i < q' → (D.put f g m C).it i < (D.put f g m C).n) :
    (D.put f g m C).Pgs (q' + (J - q)) := by
  have hn : (D.put f g m C).n = D.n - g + m := rfl
  refine ⟨fun i hi => ?_, ?_⟩
  · by_cases c : i < q'
    · exact hl i c
    · have := it_found D f g m C h q' q hq e (i - q')
      rw [show q' + (i - q') = i by omega] at this
      have h2 := hP.1 (q + (i - q')) (by omega)
      omega
  · have := it_found D f g m C h q' q hq e (J - q)
    rw [show q + (J - q) = J by omega, hP.2] at this
    omega

/-! ### Whole paragraphs -/
theorem Rts.congr {F G : Nat → Slt} {n i : Nat} (h : Rts F n i) (e : ∀ k, i ≤ k → k < n → F k = G k) : Rts G n i := by
  induction h with
  | done => exact .done
  | par i m h1 h2 h3 h4 h5 ih =>
    have ei : F i = G i := e i (Nat.le_refl _) (by omega)
    refine .par i m h1 h2 (by rw [← ei]; exact h3) (fun j hj => ?_) (ih (fun k hk hn => e k (by omega) hn))
    have := h4 j hj
    unfold okL at this ⊢
    rw [← e (i + j) (by omega) (by omega), ← ei]
    exact this
theorem Rts.le {F : Nat → Slt} {n i : Nat} (h : Rts F n i) : i ≤ n := by
  induction h with
  | done => exact Nat.le_refl _
  | par i m h1 h2 h3 h4 h5 ih => omega
/-- Moved lines. -/
theorem Rts.move {F : Nat → Slt} {n i : Nat} (h : Rts F n i) : ∀ (G : Nat → Slt) (n' i' : Nat), n' + i = n + i' → (∀ k, k < n - i → F (i + k) = G (i' + k)) → Rts G n' i' := by
  induction h with
  | done =>
    intro G n' i' e _
    obtain rfl : i' = n' := by omega
    exact .done
  | par i m h1 h2 h3 h4 h5 ih =>
    intro G n' i' e eq
    have ei : F i = G i' := eq 0 (by omega)
    refine .par i' m h1 (by omega) (by rw [← ei]; exact h3) (fun j hj => ?_) (ih G n' (i' + m) (by omega) (fun k hk => by rw [Nat.add_assoc, Nat.add_assoc]; exact eq (m + k) (by omega)))
    have := h4 j hj
    unfold okL at this ⊢
    rw [← eq j (by omega), ← ei]
    exact this
/-- A line whose number in its paragraph is 0 begins one. -/
theorem Rts.seam {F : Nat → Slt} {n i : Nat} (h : Rts F n i) : ∀ k, i ≤ k → k ≤ n → (k = n ∨ (F k).i = 0) → Rts F n k ∧ Rts F k i := by
  induction h with
  | done => intro k h1 h2 _; obtain rfl : k = n := by omega
            exact ⟨.done, .done⟩
  | par i m h1 h2 h3 h4 h5 ih =>
    intro k k1 k2 k3
    by_cases c : i + m ≤ k
    · obtain ⟨a, b⟩ := ih k c k2 k3
      exact ⟨a, .par i m h1 c h3 h4 b⟩
    · have hk := h4 (k - i) (by omega)
      unfold okL at hk
      rw [show i + (k - i) = k by omega] at hk
      obtain rfl : k = i := by
        rcases k3 with k3 | k3
        · omega
        · have := hk.2.1; omega
      exact ⟨.par k m h1 h2 h3 h4 h5, .done⟩
theorem Rts.join {F : Nat → Slt} {n k i : Nat} (h : Rts F k i) (hk : Rts F n k) : Rts F n i := by
  induction h with
  | done => exact hk
  | par i m h1 h2 h3 h4 h5 ih => exact .par i m h1 (by have := hk.le; omega) h3 h4 ih
theorem rts_put {F C : Nat → Slt} {n f g m : Nat} (h : Rts F n 0) (hC : Rts C m 0) (hfg : f + g ≤ n) (hf : f = n ∨ (F f).i = 0) (hg : f + g = n ∨ (F (f + g)).i = 0) : Rts (put F f g m C) (n - g + m) 0 := by
  obtain ⟨-, a⟩ := h.seam f (Nat.zero_le _) (by omega) hf
  obtain ⟨b, -⟩ := h.seam (f + g) (Nat.zero_le _) hfg hg
  have a' : Rts (put F f g m C) f 0 := a.congr (fun k _ hk => (put_lo hk).symm)
  have c' : Rts (put F f g m C) (f + m) f := hC.move _ (f + m) f (by omega) (fun k hk => by rw [put_in (by omega), Nat.zero_add])
  have b' : Rts (put F f g m C) (n - g + m) (f + m) := b.move _ _ _ (by omega) (fun k hk => by rw [put_hi])
  exact (a'.join c').join b'

/-! ### Lines that are alike -/
theorem Dc.hi_like (D E : Dc) (hF : ∀ k, k < D.n → D.F k = E.F k) (a M : Nat) (h : a + M ≤ D.n) : hi D.F a M = hi E.F a M := by
  induction M with
  | zero => rfl
  | succ M ih =>
    show hi _ _ M + (D.F (a + M)).h = hi _ _ M + (E.F (a + M)).h
    rw [ih (by omega), hF _ (by omega)]
theorem Dc.nxr_like (D E : Dc) (hn : D.n = E.n) (ho : D.o = E.o) (hv : D.v = E.v) (hH : D.H = E.H) (hF : ∀ k, k < D.n → D.F k = E.F k) (a M : Nat) (h : a + M ≤ D.n) : D.nxr a M = E.nxr a M := by
  induction M with
  | zero => rfl
  | succ M ih =>
    have e1 : D.nxr a (M + 1) = if D.cut (a + M + 1) = true ∧ (D.nxr a M = a ∨ hi D.F a (M + 1) ≤ D.H) then a + M + 1 else D.nxr a M := rfl
    have e2 : E.nxr a (M + 1) = if E.cut (a + M + 1) = true ∧ (E.nxr a M = a ∨ hi E.F a (M + 1) ≤ E.H) then a + M + 1 else E.nxr a M := rfl
    have e3 : D.cut (a + M + 1) = E.cut (a + M + 1) := by
      unfold Dc.cut
      rw [hn, ho, hv, hF (a + M + 1 - 1) (by omega)]
    rw [e1, e2, e3, ih (by omega), D.hi_like E hF a (M + 1) h, hH]
theorem Dc.it_like (D E : Dc) (hn : D.n = E.n) (ho : D.o = E.o) (hv : D.v = E.v) (hH : D.H = E.H) (hF : ∀ k, k < D.n → D.F k = E.F k) (j : Nat) : D.it j = E.it j := by
  induction j with
  | zero => rfl
  | succ j ih =>
    show D.nx (D.it j) = E.nx (E.it j)
    rw [ih]
    unfold Dc.nx
    rw [hn]
    have := E.it_le j
    exact D.nxr_like E hn ho hv hH hF _ _ (by omega)
theorem Dc.its_like (D E : Dc) (hn : D.n = E.n) (ho : D.o = E.o) (hv : D.v = E.v) (hH : D.H = E.H) (hF : ∀ k, k < D.n → D.F k = E.F k) (j : Nat) : D.its j = E.its j := by
  unfold Dc.its
  exact List.map_congr_left (fun i _ => D.it_like E hn ho hv hH hF i)
theorem Dc.pgs_like (D E : Dc) (hn : D.n = E.n) (ho : D.o = E.o) (hv : D.v = E.v) (hH : D.H = E.H) (hF : ∀ k, k < D.n → D.F k = E.F k) {J : Nat} (h : D.Pgs J) : E.Pgs J := by
  refine ⟨fun i hi => ?_, ?_⟩
  · rw [← D.it_like E hn ho hv hH hF, ← hn]; exact h.1 i hi
  · rw [← D.it_like E hn ho hv hH hF, ← hn]; exact h.2
/-- Put back. -/
theorem put_back (F C : Nat → Slt) (n f g m : Nat) (h : f + g ≤ n) : ∀ k, put (put F f g m C) f m g (fun j => F (f + j)) k = F k := by
  intro k
  by_cases c : k < f
  · rw [put_lo c, put_lo c]
  · by_cases d : k < f + g
    · obtain ⟨j, rfl⟩ : ∃ j, k = f + j := ⟨k - f, by omega⟩
      rw [put_in (by omega)]
    · obtain ⟨x, rfl⟩ : ∃ x, k = f + g + x := ⟨k - (f + g), by omega⟩
      rw [put_hi, put_hi]
end Go.Proofs.Ytdpjaafdpgkclaa
