/-
  Plain: a right text cut between runes gives two right ones with its runes; and of a style that is right the widths of the two together are the text's.
-/
import Derived.Test.YtcdcpmcjlchfgaaMm
namespace Go.Proofs.Ytcdcpmcjlchfgaa
open Go.RowKit
set_option linter.unusedSimpArgs false
set_option linter.unusedVariables false

theorem ext_size (s : ByteArray) (a b : Nat) (h : b ≤ s.size) : (s.extract a b).size = b - a := by
  rw [ByteArray.size_extract]; omega
theorem bt_ext (s : ByteArray) (a b k : Nat) (h : b ≤ s.size) : bt (s.extract a b) k = if a + k < b then bt s (a + k) else 256 := by
  have hz := ext_size s a b h
  by_cases c : a + k < b
  · rw [if_pos c, bt_in _ _ (by omega), bt_in _ _ (by omega), ByteArray.getElem_extract]
  · rw [if_neg c, bt_out _ _ (by omega)]
theorem bt_tail (s : ByteArray) (a k : Nat) : bt (s.extract a s.size) k = bt s (a + k) := by
  rw [bt_ext s a s.size k (Nat.le_refl _)]
  split
  · rfl
  · rw [bt_out s _ (by assumption)]
theorem dc_tail (s : ByteArray) (a k : Nat) : dc (s.extract a s.size) k = dc s (a + k) := by
  unfold dc; rw [bt_tail, bt_tail, bt_tail, bt_tail]; rfl

theorem right_of (s : ByteArray) (N : Nat) (h : Cnt s N) (hb : badAt s N < 0) : Right s N := by
  refine ⟨h, ?_⟩
  have hl := it_le s N
  by_cases c : it s N < s.size
  · unfold badAt at hb; rw [if_pos c] at hb; omega
  · omega
theorem right_bad (s : ByteArray) (N : Nat) (h : Right s N) : badAt s N = -1 := by
  unfold badAt; rw [if_neg (by rw [h.2]; omega)]

theorem it_mono (s : ByteArray) (N : Nat) (h : ∀ j, j < N → 0 < (dc s (it s j)).2) (i j : Nat) (hij : i < j) (hj : j ≤ N) : it s i < it s j := by
  have := it_grow s N h j hj i (by omega)
  omega
/-- Texts that have the same bytes up to where the first has K runes go the same way so far; c: how far behind. -/
theorem it_shift (s t : ByteArray) (c : Nat) (j0 : Nat) (K : Nat) (h0 : it t j0 = c) (h : ∀ j, j < K → 0 < (dc s (it s j)).2) (hb : ∀ i, i < it s K → bt t (c + i) = bt s i) :
    ∀ k, k ≤ K → it t (j0 + k) = c + it s k ∧ (k < K → dc t (it t (j0 + k)) = dc s (it s k)) := by
  intro k
  induction k with
  | zero =>
    intro _
    refine ⟨by simpa [it] using h0, fun hk => ?_⟩
    rw [Nat.add_zero, h0]
    refine dc_same s t (it s 0) c (h 0 hk) (fun i hi => ?_)
    have hg := it_grow s K h K (Nat.le_refl _) 1 (by omega)
    have e1 : it s 1 = it s 0 + (dc s (it s 0)).2 := rfl
    have := hb (it s 0 + i) (by omega)
    simpa [it] using this
  | succ k ih =>
    intro hk
    obtain ⟨e1, e2⟩ := ih (by omega)
    have e3 := e2 (by omega)
    have e4 : it t (j0 + (k + 1)) = c + it s (k + 1) := by
      show it t (j0 + k + 1) = _
      simp only [it]
      rw [e3, e1]; omega
    refine ⟨e4, fun hk' => ?_⟩
    rw [e4]
    refine dc_same s t (it s (k + 1)) (c + it s (k + 1)) (h (k + 1) hk') (fun i hi => ?_)
    have hg := it_grow s K h K (Nat.le_refl _) (k + 2) (by omega)
    have e5 : it s (k + 2) = it s (k + 1) + (dc s (it s (k + 1))).2 := rfl
    have := hb (it s (k + 1) + i) (by omega)
    rw [Nat.add_assoc]; exact this

theorem cnt_end (s : ByteArray) (N : Nat) (h : ∀ j, j < N → 0 < (dc s (it s j)).2) (he : it s N = s.size) : Right s N :=
  ⟨⟨h, by rw [he, dc_out s _ (by omega)]⟩, he⟩

/-- A right text cut where rune number K begins gives two. -/
theorem cut_right (u : ByteArray) (N K : Nat) (hu : Right u N) (hK : K ≤ N) : Right (u.extract 0 (it u K)) K ∧ Right (u.extract (it u K) u.size) (N - K) := by
  have hle := it_le u K
  have z1 := ext_size u 0 (it u K) hle
  have z2 := ext_size u (it u K) u.size (Nat.le_refl _)
  have hpK : ∀ j, j < K → 0 < (dc u (it u j)).2 := fun j hj => hu.1.1 j (by omega)
  have a1 := it_shift u (u.extract 0 (it u K)) 0 0 K rfl hpK (by
    intro i hi
    rw [Nat.zero_add, bt_ext u 0 (it u K) i hle, if_pos (by omega)]; simp)
  have e1 : it (u.extract 0 (it u K)) K = (u.extract 0 (it u K)).size := by have := (a1 K (Nat.le_refl _)).1; rw [z1]; simpa using this
  refine ⟨cnt_end _ K ?_ e1, ?_⟩
  · intro j hj
    have := (a1 j (by omega)).2 hj
    rw [Nat.zero_add] at this
    rw [this]; exact hpK j hj
  · have tail : ∀ k, k ≤ N - K → it u (K + k) = it u K + it (u.extract (it u K) u.size) k := by
      intro k
      induction k with
      | zero => intro _; rfl
      | succ k ih =>
        intro hk
        show it u (K + k + 1) = _
        simp only [it]
        rw [ih (by omega), dc_tail]
        omega
    refine cnt_end _ (N - K) ?_ ?_
    · intro j hj
      rw [dc_tail, ← tail j (by omega)]
      exact hu.1.1 (K + j) (by omega)
    · have := tail (N - K) (Nat.le_refl _)
      rw [show K + (N - K) = N by omega, hu.2] at this
      rw [z2]; omega


/-- The runes of the two parts are the text's. -/
theorem cut_runes (u : ByteArray) (N K : Nat) (hu : Right u N) (hK : K ≤ N) : (∀ j, j < K → rn (u.extract 0 (it u K)) j = rn u j) ∧ ∀ j, j < N - K → rn (u.extract (it u K) u.size) j = rn u (K + j) := by
  have hle := it_le u K
  have hpK : ∀ j, j < K → 0 < (dc u (it u j)).2 := fun j hj => hu.1.1 j (by omega)
  have a1 := it_shift u (u.extract 0 (it u K)) 0 0 K rfl hpK (by
    intro i hi
    rw [Nat.zero_add, bt_ext u 0 (it u K) i hle, if_pos (by omega)]; simp)
  constructor
  · intro j hj
    have := (a1 j (by omega)).2 hj
    rw [Nat.zero_add] at this
    unfold rn
    rw [this]
  · have tail : ∀ k, k ≤ N - K → it u (K + k) = it u K + it (u.extract (it u K) u.size) k := by
      intro k
      induction k with
      | zero => intro _; rfl
      | succ k ih =>
        intro hk
        show it u (K + k + 1) = _
        simp only [it]
        rw [ih (by omega), dc_tail]
        omega
    intro j hj
    unfold rn
    rw [dc_tail, ← tail j (by omega)]

/-- A style's widths lie within bounds. -/
def Bnd (s : Sty) : Prop := ∀ r, 0 ≤ wdS s r ∧ wdS s r ≤ 1048576
theorem flt_bnd {s : Sty} (h : flt s = 0) : Bnd s := by
  intro r
  unfold flt at h
  split at h
  · rename_i hm
    unfold msr at hm
    simp only [Bool.and_eq_true] at hm
    obtain ⟨⟨⟨⟨⟨⟨⟨-, -⟩, h1⟩, -⟩, -⟩, -⟩, h2⟩, -⟩ := hm
    have b1 := un_t h1
    have b2 := un_t h2
    split at h
    · omega
    · have hz : ∀ k, k < s.rn → rfa s.R k = 0 := by
        generalize s.rn = n at *
        induction n with
        | zero => intro k hk; omega
        | succ n ih =>
          have e : rfs s.R (n + 1) = if rfs s.R n = 0 then rfa s.R n else rfs s.R n := rfl
          rw [e] at h
          by_cases c : rfs s.R n = 0
          · rw [if_pos c] at h
            intro k hk
            by_cases d : k = n
            · subst d; exact h
            · exact ih (by omega) c k (by omega)
          · rw [if_neg c] at h; exact absurd h c
      have hw : ∀ k, k < s.rn → 0 ≤ (s.R k).wd ∧ (s.R k).wd ≤ 1048576 := by
        intro k hk
        have := hz k hk
        unfold rfa at this
        split at this
        · omega
        · split at this
          · rename_i c; exact un_t c
          · omega
      unfold wdS
      split
      · exact b1
      · split
        · omega
        · unfold rgw
          split
          · rename_i c; exact hw _ c
          · exact b2
  · omega
theorem zeroS_bnd : Bnd zeroS := by
  intro r
  have hz : zeroS.rn = 0 := rfl
  unfold wdS
  split
  · exact ⟨Int.le_refl _, by show (0 : Int) ≤ 1048576; omega⟩
  · split
    · omega
    · unfold rgw
      rw [hz, if_neg (by omega)]
      exact ⟨Int.le_refl _, by show (0 : Int) ≤ 1048576; omega⟩
theorem ofS_bnd {G : Nat → Sty} {n : Nat} (hg : ∀ i, i < n → flt (G i) = 0) (a : Int) : Bnd (ofS G n a) := by
  unfold ofS
  split
  · rename_i c; exact flt_bnd (hg _ (by omega))
  · exact zeroS_bnd
theorem ad_in (a b : Int) (h1 : 0 ≤ a) (h2 : 0 ≤ b) (h3 : a + b ≤ 1152921504606846976) : ad a b = a + b := by
  unfold ad
  rw [cl_same a (by omega) (by omega), cl_same b (by omega) (by omega), cl_same _ (by omega) (by omega)]
theorem txw_in {s : Sty} (h : Bnd s) (t : ByteArray) (k : Nat) (hk : k ≤ 8192) : 0 ≤ txw s t k ∧ txw s t k ≤ 1048576 * (k : Int) := by
  induction k with
  | zero => simp [txw]
  | succ k ih =>
    have i := ih (by omega)
    have b := h (rn t k)
    simp only [txw]
    rw [ad_in _ _ i.1 b.1 (by omega)]
    omega
theorem txw_step {s : Sty} (h : Bnd s) (t : ByteArray) (k : Nat) (hk : k < 8192) : txw s t (k + 1) = txw s t k + wdS s (rn t k) := by
  have i := txw_in h t k (by omega)
  have b := h (rn t k)
  simp only [txw]
  exact ad_in _ _ i.1 b.1 (by omega)
theorem txw_same {s : Sty} (t u : ByteArray) (k : Nat) (h : ∀ j, j < k → rn t j = rn u j) : txw s t k = txw s u k := by
  induction k with
  | zero => rfl
  | succ k ih => simp only [txw]; rw [ih (fun j hj => h j (by omega)), h k (by omega)]
theorem txw_parts {s : Sty} (h : Bnd s) (u : ByteArray) (N K : Nat) (hu : Right u N) (hK : K ≤ N) (hN : N ≤ 8192) :
    txw s (u.extract 0 (it u K)) K + txw s (u.extract (it u K) u.size) (N - K) = txw s u N := by
  obtain ⟨c1, c2⟩ := cut_runes u N K hu hK
  rw [txw_same _ u K c1]
  have : ∀ m, m ≤ N - K → txw s u K + txw s (u.extract (it u K) u.size) m = txw s u (K + m) := by
    intro m
    induction m with
    | zero => intro _; simp [txw]
    | succ m ih =>
      intro hm
      have e := ih (by omega)
      rw [txw_step h _ m (by omega), c2 m (by omega), show K + (m + 1) = (K + m) + 1 by omega, txw_step h u (K + m) (by omega)]
      omega
  have e := this (N - K) (Nat.le_refl _)
  rw [show K + (N - K) = N by omega] at e
  exact e
end Go.Proofs.Ytcdcpmcjlchfgaa
