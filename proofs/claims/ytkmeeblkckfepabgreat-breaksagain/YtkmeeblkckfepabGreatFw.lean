/-
  What a breaking's ways are, in plain words: their lengths, where they end. No program in it.
-/
import Derived.Test.YtkmeeblkckfepabGreatFu
namespace Go.Proofs.YtkmeeblkckfepabGreat
set_option linter.unusedSimpArgs false
set_option linter.unusedVariables false

/-- A way rises, and has no more lines than there are breaks. -/
theorem cw_len (P : Pr) (l : List Nat) : ∀ (i : Nat) (a c : Int), cw P i a l = some c → i + l.length ≤ P.m := by
  induction l with
  | nil => intro i a c h; simp only [cw] at h; split at h; rename_i e; simp [e]; cases h
  | cons j t ih =>
    intro i a c h
    obtain ⟨hs, r, hr, -⟩ := cw_cons P _ _ _ _ _ h
    have h1 := (mayL_iff P _ _).1 hs
    have h2 := ih _ _ _ hr
    simp only [List.length_cons]
    omega
theorem brk_len {I : Nat → Itm} {n : Nat} {width : Int} {s : Stg} {c : Int} {l : List Nat} {em : Bool} (h : Brk I n width s c l em) : l.length ≤ nbk I n := by
  have key : ∀ T, ∀ c, Best (PT I n width s T) 0 (-1) c l → l.length ≤ nbk I n := fun T c h => by
    have := cw_len _ _ _ _ _ h.1
    have e : (PT I n width s T).m = nbk I n := rfl
    omega
  rcases h with ⟨-, h⟩ | ⟨-, -, h | ⟨-, -, h⟩⟩
  · exact key _ _ h
  · exact key _ _ h
  · rw [h]; simp
/-- A way's breaks: they rise, and every forced one is among them. -/
def Wy (m : Nat) (fo : Nat → Bool) (i : Nat) (l : List Nat) : Prop := (∀ j, j ∈ l → i ≤ j ∧ j < m) ∧ l.Pairwise (· < ·) ∧ ∀ k, i ≤ k → k < m → fo k = true → k ∈ l
theorem cw_wy (P : Pr) (l : List Nat) : ∀ (i : Nat) (a c : Int), cw P i a l = some c → Wy P.m P.fo i l := by
  induction l with
  | nil =>
    intro i a c h
    simp only [cw] at h
    split at h
    · rename_i e
      exact ⟨by simp, List.Pairwise.nil, fun k h1 h2 => by omega⟩
    · cases h
  | cons j t ih =>
    intro i a c h
    obtain ⟨hs, r, hr, -⟩ := cw_cons P _ _ _ _ _ h
    obtain ⟨h1, h2, -, h4⟩ := (mayL_iff P _ _).1 hs
    obtain ⟨g1, g2, g3⟩ := ih _ _ _ hr
    refine ⟨fun x hx => ?_, List.Pairwise.cons (fun x hx => by have := g1 x hx; omega) g2, fun k k1 k2 k3 => ?_⟩
    · rcases List.mem_cons.1 hx with rfl | hx
      · exact ⟨h1, h2⟩
      · have := g1 x hx; omega
    · by_cases c1 : k < j
      · rw [h4 k c1 k1] at k3; cases k3
      · by_cases c2 : k = j
        · subst c2; simp
        · exact List.mem_cons_of_mem _ (g3 k (by omega) k2 k3)
theorem range_wy (m : Nat) (fo : Nat → Bool) : Wy m fo 0 (List.range m) := ⟨fun j hj => ⟨Nat.zero_le _, List.mem_range.1 hj⟩, List.pairwise_lt_range, fun k _ h _ => List.mem_range.2 h⟩
section
variable {I : Nat → Itm} {n : Nat} {width : Int} {s : Stg} {c : Int} {l : List Nat} {em : Bool}
theorem brk_wy (h : Brk I n width s c l em) : Wy (nbk I n) (fun j => forc (itb I n j)) 0 l := by
  rcases h with ⟨-, h⟩ | ⟨-, -, h | ⟨-, -, h⟩⟩
  · exact cw_wy _ _ _ _ _ h.1
  · exact cw_wy _ _ _ _ _ h.1
  · rw [h]; exact range_wy _ _
theorem brk_cost (h : Brk I n width s c l em) (hn : n ≤ 262144) (hok : ∀ i, i < n → okI I i = true) (hs : okS s = true) : 0 ≤ c ∧ c ≤ Awf := by
  have hs2 : okS { s with t := 10000 } = true := by rw [okS_iff] at hs ⊢; simp only; omega
  rcases h with ⟨-, h⟩ | ⟨-, -, h | ⟨-, h, -⟩⟩
  · have := cw_less _ (bnd_of I n width s s.t hn hok hs) _ _ _ _ h.1; unfold Awf; omega
  · have := cw_less _ (bnd_of I n width s 10000 hn hok hs) _ _ _ _ h.1; unfold Awf; omega
  · rw [h]; unfold Awf; omega
/-- A break's number as a numeral. -/
theorem bkn_at (I : Nat → Itm) (n j : Nat) (h : j < nbk I n) : bk I n j = (bkn I n j : Nat) ∧ bkn I n j < n ∧ legl I n (bkn I n j : Nat) = true := by
  obtain ⟨b, e, h1, h2, h3⟩ := bk_at I n j h
  have : bkn I n j = b := by
    have := bk_bkn I n j h
    omega
  rw [this]
  exact ⟨e, h1, h2⟩
theorem bkn_less (I : Nat → Itm) (n i j : Nat) (hij : i < j) (h : j < nbk I n) : bkn I n i < bkn I n j := by
  have := bk_less I n i j hij h
  rw [(bkn_at I n j h).1, (bkn_at I n i (by omega)).1] at this
  omega
theorem forc_legl (I : Nat → Itm) (n i : Nat) (hi : i < n) (h : forc (I i) = true) : legl I n i = true := by
  simp [forc] at h
  simp [legl, h.1]
  omega
/-- What the statement asks of every breaking. -/
theorem brk_row (h : Brk I n width s c l em) : (∀ j, j < (l.map (bkn I n)).length → (l.map (bkn I n)).getD j 0 < n ∧ legl I n ((l.map (bkn I n)).getD j 0 : Nat) = true) ∧ (∀ i j, i < j → j < (l.map (bkn I n)).length → (l.map (bkn I n)).getD i 0 < (l.map (bkn I n)).getD j 0) ∧ (∀ i, i < n → forc (I i) = true → ∃ j, j < (l.map (bkn I n)).length ∧ (l.map (bkn I n)).getD j 0 = i) := by
  obtain ⟨w1, w2, w3⟩ := brk_wy h
  have hg : ∀ j (hj : j < l.length), (l.map (bkn I n)).getD j 0 = bkn I n l[j] := fun j hj => by
    rw [List.getD_eq_getElem?_getD, List.getElem?_map, List.getElem?_eq_getElem hj]; rfl
  rw [List.length_map]
  refine ⟨fun j hj => ?_, fun i j hij hj => ?_, fun i hi hf => ?_⟩
  · rw [hg j hj]
    exact (bkn_at I n _ (w1 _ (List.getElem_mem hj)).2).2
  · rw [hg j hj, hg i (by omega)]
    exact bkn_less I n _ _ (List.pairwise_iff_getElem.1 w2 i j (by omega) hj hij) (w1 _ (List.getElem_mem hj)).2
  · obtain ⟨k, hk, e⟩ := lgs_mem I n n i hi (forc_legl I n i hi hf)
    have hb := bkn_at I n k hk
    obtain ⟨b, e2, -, -, e3⟩ := bk_at I n k hk
    have hbk : bk I n k = (i : Nat) := by omega
    have hm := w3 k (Nat.zero_le _) hk (by
      show forc (itb I n (k : Int)) = true
      unfold itb itm
      rw [hbk, if_pos (by omega), Int.toNat_natCast]
      exact hf)
    obtain ⟨j, hj, ej⟩ := List.getElem_of_mem hm
    refine ⟨j, hj, ?_⟩
    rw [hg j hj, ej]
    omega
/-- The last one is the last item. -/
theorem brk_end (h : Brk I n width s c l em) (h0 : 0 < n) (hf : forc (I (n - 1)) = true) : (l.map (bkn I n)).getD ((l.map (bkn I n)).length - 1) 0 = n - 1 := by
  obtain ⟨h1, h2, h3⟩ := brk_row h
  obtain ⟨j, hj, e⟩ := h3 (n - 1) (by omega) hf
  by_cases c1 : j = (l.map (bkn I n)).length - 1
  · rw [← c1]; exact e
  · have := h2 j ((l.map (bkn I n)).length - 1) (by omega) (by omega)
    have := (h1 ((l.map (bkn I n)).length - 1) (by omega)).1
    omega
end
end Go.Proofs.YtkmeeblkckfepabGreat
