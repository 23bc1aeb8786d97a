/-
  Plain: what holds of the search from break to break. No walk.
-/
import Derived.Test.YtkmeeblkckfepabGreatFr
namespace Go.Proofs.YtkmeeblkckfepabGreat
set_option linter.unusedSimpArgs false
set_option linter.unusedVariables false

/-- Lines behind break i - 1 end ahead of bd: at its last break they must. -/
def BdOk (I : Nat → Itm) (n i bd : Nat) : Prop := i < bd ∧ bd ≤ nbk I n ∧ (∀ q : Nat, i ≤ q → q + 1 < bd → forc (itb I n q) = false) ∧ forc (itb I n ((bd - 1 : Nat) : Int)) = true
/-- The two bounds behind enter. -/
def nr0 (I : Nat → Itm) (n i nr : Nat) : Nat := if forc (itb I n i) = true then i + 1 else nr
/-- What holds when the lines behind break i - 1 are looked for. -/
structure Inv (I : Nat → Itm) (n : Nat) (width : Int) (s : Stg) (i nr bd : Nat) (L1 L2 : List (Nat × Int)) (R : Nat → Nat → Int × Nat) : Prop where
  hrs : ∀ j, i ≤ j → j < nbk I n → ∀ c : Nat, c < 4 → Rst (PT I n width s s.t) (j + 1) (c : Int) (R j c).1 (R j c).2
  hbd : forc (itb I n i) = true ∨ (i + 1 ≤ nr ∧ nr ≤ bd ∧ BdOk I n (i + 1) bd)
  hle : bd ≤ nbk I n ∧ nr ≤ nbk I n
  hws : (s.t = 10000 ∧ ∃ hi, nr0 I n i nr ≤ hi ∧ hi ≤ nbk I n ∧ Good (fun e => uC I n s false e (R e 3).1) (i + 1) hi L1 ∧ Good (fun e => uC I n s true e (R e 3).1) (i + 1) hi L2) ∨ (s.t ≠ 10000 ∧ L1 = [] ∧ L2 = [])
section
variable {I : Nat → Itm} {n : Nat} {width : Int} {s : Stg} {i nr bd : Nat} {L1 L2 : List (Nat × Int)} {R : Nat → Nat → Int × Nat}
theorem Inv.start (h0 : 0 < n) (hf : forc (I (n - 1)) = true) : Inv I n width s (nbk I n - 1) 0 0 [] [] (fun _ _ => (0, 0)) := by
  obtain ⟨h1, h2, h3⟩ := bk_last I n h0 hf
  refine ⟨fun j hj1 hj2 c hc => ?_, .inl h3, ⟨by omega, by omega⟩, ?_⟩
  · have e : j + 1 = (PT I n width s s.t).m := by simp only [PT]; omega
    rw [e]
    exact rst_end _ _ _
  · by_cases ht : s.t = 10000
    · refine .inl ⟨ht, nbk I n, by unfold nr0; rw [if_pos h3]; omega, Nat.le_refl _, good_nil _ _ _ (by omega), good_nil _ _ _ (by omega)⟩
    · exact .inr ⟨ht, rfl, rfl⟩
theorem Inv.len (hm : nbk I n ≤ 262144) (h : Inv I n width s i nr bd L1 L2 R) : L1.length ≤ 262143 ∧ L2.length ≤ 262143 := by
  rcases h.hws with ⟨-, hi, h1, h2, h3, h4⟩ | ⟨-, rfl, rfl⟩
  · have := good_len h3
    have := good_len h4
    omega
  · simp
/-- The bound behind enter. -/
theorem Inv.bound (h : Inv I n width s i nr bd L1 L2 R) (hi : i < nbk I n) : BdOk I n i (if forc (itb I n i) = true then i + 1 else bd) := by
  split
  · rename_i hf
    exact ⟨by omega, by omega, fun q h1 h2 => by omega, by simpa using hf⟩
  · rename_i hf
    rcases h.hbd with hb | ⟨h1, h2, h3, h4, h5, h6⟩
    · exact absurd hb hf
    · refine ⟨by omega, h4, fun q hq1 hq2 => ?_, h6⟩
      by_cases c : q = i
      · subst c; simpa using hf
      · exact h5 q (by omega) hq2
theorem Inv.nrs (h : Inv I n width s i nr bd L1 L2 R) (hi : i < nbk I n) : i + 1 ≤ nr0 I n i nr ∧ nr0 I n i nr ≤ nbk I n := by
  unfold nr0
  split
  · omega
  · rename_i hf
    rcases h.hbd with hb | ⟨h1, h2, -⟩
    · exact absurd hb hf
    · have := h.hle; omega
/-- The windows behind enter and leave. -/
theorem Inv.win (h : Inv I n width s i nr bd L1 L2 R) (hi : i < nbk I n) (nr' : Nat) (h1 : nr' ≤ nr0 I n i nr) :
    (s.t = 10000 ∧ Good (fun e => uC I n s false e (R e 3).1) i nr' (dr nr' (ent s L1 (i, uC I n s false i (R i 3).1))) ∧ Good (fun e => uC I n s true e (R e 3).1) i nr' (dr nr' (ent s L2 (i, uC I n s true i (R i 3).1)))) ∨ (s.t ≠ 10000 ∧ dr nr' (ent s L1 (i, uC I n s false i (R i 3).1)) = [] ∧ dr nr' (ent s L2 (i, uC I n s true i (R i 3).1)) = []) := by
  have hnr := h.nrs hi
  rcases h.hws with ⟨ht, hi', q1, q2, q3, q4⟩ | ⟨ht, rfl, rfl⟩
  · left
    have e1 : ∀ L x, ent s L x = L.take (pk L x.2 L.length) ++ [x] := fun L x => if_pos ht
    rw [e1, e1]
    exact ⟨ht, good_dr (good_add (u := fun e => uC I n s false e (R e 3).1) q3 (by omega)) (by omega), good_dr (good_add (u := fun e => uC I n s true e (R e 3).1) q4 (by omega)) (by omega)⟩
  · right
    have e1 : ∀ L x, ent s L x = L := fun L x => if_neg ht
    rw [e1, e1]
    exact ⟨ht, rfl, rfl⟩
/-- The choice of the lines behind break i - 1. -/
theorem Inv.choice (hn : n ≤ 262144) (hok : ∀ i, i < n → okI I i = true) (hs : okS s = true) (hw : 1 ≤ width ∧ width ≤ 1073741824) (h : Inv I n width s i nr bd L1 L2 R) (hi : i < nbk I n) (nr' st : Nat)
    (h1 : i ≤ nr' ∧ nr' ≤ (if forc (itb I n i) = true then i + 1 else nr) ∧ (nr' = i ∨ hpl I n width ((i : Int) - 1) ((nr' - 1 : Nat) : Int) = true))
    (h2 : nr' ≤ st ∧ st ≤ (if forc (itb I n i) = true then i + 1 else bd) ∧ (st = (if forc (itb I n i) = true then i + 1 else bd) ∨ width < (upt I n (bk I n ((i : Int) - 1)) (bk I n st)).w - (upt I n (bk I n ((i : Int) - 1)) (bk I n st)).sh)) :
    ChS I n width s R i (hfu I n width s R ((i : Int) - 1) nr' st (hop (fun _ => Ln.none) (sel (itb I n ((i : Int) - 1)).flag (dr nr' (ent s L2 (i, uC I n s true i (R i 3).1))) (dr nr' (ent s L1 (i, uC I n s false i (R i 3).1)))))) (if forc (itb I n i) = true then i + 1 else bd) := by
  have hB := bnd_of I n width s s.t hn hok hs
  have hRb : ∀ j, i ≤ j → j < nbk I n → ∀ c, c < 4 → (R j c).1 = Awf ∨ (0 ≤ (R j c).1 ∧ (R j c).1 ≤ 140737488355328) := fun j h1 h2 c hc => rst_bnd hB (h.hrs j h1 h2 c hc)
  have hbo := h.bound hi
  have hnr := h.nrs hi
  have hnb := hbo.2.1
  have hnm : nr' ≤ nbk I n := Nat.le_trans h1.2.1 hnr.2
  have hG := h.win hi nr' h1.2.1
  refine chs_wide hn hok (chs_hfu hn hok hs (chs_hop hn hok hs hw h1.1 hnm h1.2.2 (fun j a b => hRb j a (by omega)) _ ?_) h1.1 st h2.1 (fun j a b => hRb j a (by omega))) hnb h2.2.1 h2.2.2
  rcases hG with ⟨ht, g1, g2⟩ | ⟨ht, g1, g2⟩
  · left
    refine ⟨ht, ?_⟩
    unfold sel
    cases (itb I n ((i : Int) - 1)).flag
    · simpa using g1
    · simpa using g2
  · right
    refine ⟨ht, ?_⟩
    unfold sel
    split
    · exact g2
    · exact g1
/-- Only the rests behind break i count. -/
theorem chs_congr {R' : Nat → Nat → Int × Nat} {C : Nat → Ln} {e : Nat} (h : ChS I n width s R i C e) (hR : ∀ j, i ≤ j → ∀ c, R' j c = R j c) : ChS I n width s R' i C e := by
  have e1 : ∀ j, i ≤ j → rj I n width R' i j = rj I n width R i j := fun j hj => by unfold rj; rw [hR j hj]
  have e2 : ∀ j, i ≤ j → vC I n width s R' ((i : Int) - 1) j = vC I n width s R ((i : Int) - 1) j := fun j hj => by unfold vC; rw [hR j hj]
  intro c hc
  rcases h c hc with ⟨h1, h2⟩ | ⟨j, j1, j2, j3, j4, j5, j6, j7, j8, j9⟩
  · exact .inl ⟨h1, fun j a1 a2 a3 a4 => by rw [e1 j a1]; exact h2 j a1 a2 a3 a4⟩
  · refine .inr ⟨j, j1, j2, j3, j4, by rw [e1 j j1]; exact j5, j6, by rw [e2 j j1]; exact j7, j8, fun j' a1 a2 a3 a4 a5 => ?_⟩
    rw [e1 j' a1] at a5
    rw [e2 j j1, e2 j' a1]
    exact j9 j' a1 a2 a3 a4 a5
/-- What the lines of a choice are. -/
theorem chs_ok {C : Nat → Ln} {e : Nat} (h : ChS I n width s R i C e) (he : e ≤ nbk I n) : ∀ k, k < 4 → (C k).c ≠ Awf → (0 ≤ (C k).e ∧ (C k).e < (nbk I n : Int)) ∧ 0 ≤ (C k).f.cls ∧ (C k).f.cls < 4 := by
  intro k hk hA
  rcases h k hk with ⟨h1, -⟩ | ⟨j, j1, j2, j3, j4, j5, j6, j7, j8, j9⟩
  · exact absurd h1 hA
  · have := ftb_cls I n width ((i : Int) - 1) j
    rw [j6, j8.2.2]
    omega
/-- On to the break ahead. -/
theorem Inv.next {R' : Nat → Nat → Int × Nat} (h : Inv I n width s (i + 1) nr bd L1 L2 R) (hi : i + 1 < nbk I n) (nr' : Nat) (h1 : i + 1 ≤ nr' ∧ nr' ≤ (if forc (itb I n ((i + 1 : Nat) : Int)) = true then i + 1 + 1 else nr))
    (hR : ∀ j, i + 1 ≤ j → ∀ c, R' j c = R j c) (hN : ∀ c : Nat, c < 4 → Rst (PT I n width s s.t) (i + 1) (c : Int) (R' i c).1 (R' i c).2) :
    Inv I n width s i nr' (if forc (itb I n ((i + 1 : Nat) : Int)) = true then i + 1 + 1 else bd) (dr nr' (ent s L1 (i + 1, uC I n s false (i + 1) (R (i + 1) 3).1))) (dr nr' (ent s L2 (i + 1, uC I n s true (i + 1) (R (i + 1) 3).1))) R' := by
  have hbo := h.bound hi
  have hnr := h.nrs hi
  have hW := h.win hi nr' h1.2
  have hnb : nr' ≤ (if forc (itb I n ((i + 1 : Nat) : Int)) = true then i + 1 + 1 else bd) := by
    have := h1.2
    split at this
    · rename_i hf; rw [if_pos hf]; exact this
    · rename_i hf
      rw [if_neg hf]
      rcases h.hbd with hb | ⟨a1, a2, -⟩
      · exact absurd hb hf
      · omega
  have hle : nr' ≤ nbk I n := Nat.le_trans h1.2 hnr.2
  refine ⟨fun j a1 a2 c hc => ?_, .inr ⟨h1.1, hnb, hbo⟩, ⟨hbo.2.1, hle⟩, ?_⟩
  · by_cases e : j = i
    · subst e; exact hN c hc
    · rw [hR j (by omega)]; exact h.hrs j (by omega) a2 c hc
  · rcases hW with ⟨ht, g1, g2⟩ | ⟨ht, g1, g2⟩
    · left
      refine ⟨ht, nr', ?_, hle, ?_, ?_⟩
      · unfold nr0; split <;> omega
      · refine ⟨fun x hx => ?_, g1.2.1, fun e a1 a2 => ?_⟩
        · have := g1.1 x hx; simp only [hR x.1 this.1]; exact this
        · simp only [hR e a1]; exact g1.2.2 e a1 a2
      · refine ⟨fun x hx => ?_, g2.2.1, fun e a1 a2 => ?_⟩
        · have := g2.1 x hx; simp only [hR x.1 this.1]; exact this
        · simp only [hR e a1]; exact g2.2.2 e a1 a2
    · exact .inr ⟨ht, g1, g2⟩
end
end Go.Proofs.YtkmeeblkckfepabGreat
