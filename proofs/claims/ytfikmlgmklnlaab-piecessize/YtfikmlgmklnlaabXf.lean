/-
  Plain: right texts are joined, and cut between runes, to right ones; a place that may be named is one where a rune begins, or the end. No program in it.
-/
import Derived.Test.YtfikmlgmklnlaabWs
namespace Go.Proofs.Ytfikmlgmklnlaab
open Go.RowKit
set_option linter.unusedSimpArgs false
set_option linter.unusedVariables false

theorem right_of (s : ByteArray) (N : Nat) (h : Cnt s N) (hb : badAt s N < 0) : Right s N := by
  refine ⟨h, ?_⟩
  have hl := it_le s N
  by_cases c : it s N < s.size
  · unfold badAt at hb; rw [if_pos c] at hb; omega
  · omega
theorem right_bad (s : ByteArray) (N : Nat) (h : Right s N) : badAt s N = -1 := by
  unfold badAt; rw [if_neg (by rw [h.2]; omega)]

/-- Every place of a right text but its end lies in one of its runes. -/
theorem find_run (s : ByteArray) (N : Nat) (h : ∀ j, j < N → 0 < (dc s (it s j)).2) : ∀ k, k < it s N → ∃ j, j < N ∧ it s j ≤ k ∧ k < it s (j + 1) := by
  induction N with
  | zero => intro k hk; simp [it] at hk
  | succ N ih =>
    intro k hk
    by_cases c : k < it s N
    · obtain ⟨j, h1, h2⟩ := ih (fun j hj => h j (by omega)) k c
      exact ⟨j, by omega, h2⟩
    · exact ⟨N, by omega, by omega, hk⟩
/-- Within a rune the bytes are from 128 to 191, but the first. -/
theorem ins_run (s : ByteArray) (j k : Nat) (h1 : it s j ≤ k) (h2 : k < it s (j + 1)) : ins (bt s k : Int) = true ↔ it s j < k := by
  have hi := dc_inside s (it s j) (k - it s j) (by simp only [it] at h2; omega)
  rw [show it s j + (k - it s j) = k by omega] at hi
  rw [ins_nat, hi]
  omega
theorem it_mono (s : ByteArray) (N : Nat) (h : ∀ j, j < N → 0 < (dc s (it s j)).2) (i j : Nat) (hij : i < j) (hj : j ≤ N) : it s i < it s j := by
  have := it_grow s N h j hj i (by omega)
  omega
/-- A place is where a rune begins just if its byte is not from 128 to 191. -/
theorem ins_begin (s : ByteArray) (N : Nat) (h : Right s N) (k : Nat) (hk : k < s.size) : ins (bt s k : Int) = false ↔ ∃ j, j < N ∧ it s j = k := by
  obtain ⟨j, h1, h2, h3⟩ := find_run s N h.1.1 k (by rw [h.2]; exact hk)
  have hi := ins_run s j k h2 h3
  constructor
  · intro c
    refine ⟨j, h1, ?_⟩
    rw [c] at hi
    have : ¬ it s j < k := fun x => by have := hi.2 x; cases this
    omega
  · rintro ⟨i, hi1, hi2⟩
    have hij : i = j := by
      rcases Nat.lt_trichotomy i j with c | c | c
      · have := it_mono s N h.1.1 i j c (by omega); omega
      · exact c
      · have hm : it s (j + 1) ≤ it s i := by
          by_cases e : j + 1 = i
          · rw [e]; exact Nat.le_refl _
          · exact Nat.le_of_lt (it_mono s N h.1.1 (j + 1) i (by omega) (by omega))
        omega
    subst hij
    cases c : ins (bt s k : Int) with
    | false => rfl
    | true => have := hi.1 c; omega
/-- Texts that have the same bytes up to where the first has K runes go the same way so far; c: how far behind. -/
theorem it_shift (s t : ByteArray) (c : Nat) (j0 : Nat) (K : Nat) (h0 : it t j0 = c) (h : ∀ j, j < K → 0 < (dc s (it s j)).2) (hb : ∀ i, i < it s K → bt t (c + i) = bt s i) :
    ∀ k, k ≤ K → it t (j0 + k) = c + it s k ∧ (k < K → dc t (it t (j0 + k)) = dc s (it s k)) := by
  intro k
  induction k with
  | zero =>
    intro _
    refine ⟨by simpa [it] using h0, fun hk => ?_⟩
    rw [Nat.add_zero, h0]
    refine dc_same s t (it s 0) c (h 0 hk) (fun i hi => ?_)
    have hg := it_grow s K h K (Nat.le_refl _) 1 (by omega)
    have e1 : it s 1 = it s 0 + (dc s (it s 0)).2 := rfl
    have := hb (it s 0 + i) (by omega)
    simpa [it] using this
  | succ k ih =>
    intro hk
    obtain ⟨e1, e2⟩ := ih (by omega)
    have e3 := e2 (by omega)
    have e4 : it t (j0 + (k + 1)) = c + it s (k + 1) := by
      show it t (j0 + k + 1) = _
      simp only [it]
      rw [e3, e1]; omega
    refine ⟨e4, fun hk' => ?_⟩
    rw [e4]
    refine dc_same s t (it s (k + 1)) (c + it s (k + 1)) (h (k + 1) hk') (fun i hi => ?_)
    have hg := it_grow s K h K (Nat.le_refl _) (k + 2) (by omega)
    have e5 : it s (k + 2) = it s (k + 1) + (dc s (it s (k + 1))).2 := rfl
    have := hb (it s (k + 1) + i) (by omega)
    rw [Nat.add_assoc]; exact this

theorem cnt_end (s : ByteArray) (N : Nat) (h : ∀ j, j < N → 0 < (dc s (it s j)).2) (he : it s N = s.size) : Right s N :=
  ⟨⟨h, by rw [he, dc_out s _ (by omega)]⟩, he⟩

/-- A right text cut where rune number K begins gives two. -/
theorem cut_right (u : ByteArray) (N K : Nat) (hu : Right u N) (hK : K ≤ N) : Right (u.extract 0 (it u K)) K ∧ Right (u.extract (it u K) u.size) (N - K) := by
  have hle := it_le u K
  have z1 := ext_size u 0 (it u K) hle
  have z2 := ext_size u (it u K) u.size (Nat.le_refl _)
  have hpK : ∀ j, j < K → 0 < (dc u (it u j)).2 := fun j hj => hu.1.1 j (by omega)
  have a1 := it_shift u (u.extract 0 (it u K)) 0 0 K rfl hpK (by
    intro i hi
    rw [Nat.zero_add, bt_ext u 0 (it u K) i hle, if_pos (by omega)]; simp)
  have e1 : it (u.extract 0 (it u K)) K = (u.extract 0 (it u K)).size := by have := (a1 K (Nat.le_refl _)).1; rw [z1]; simpa using this
  refine ⟨cnt_end _ K ?_ e1, ?_⟩
  · intro j hj
    have := (a1 j (by omega)).2 hj
    rw [Nat.zero_add] at this
    rw [this]; exact hpK j hj
  · have tail : ∀ k, k ≤ N - K → it u (K + k) = it u K + it (u.extract (it u K) u.size) k := by
      intro k
      induction k with
      | zero => intro _; rfl
      | succ k ih =>
        intro hk
        show it u (K + k + 1) = _
        simp only [it]
        rw [ih (by omega), dc_tail]
        omega
    refine cnt_end _ (N - K) ?_ ?_
    · intro j hj
      rw [dc_tail, ← tail j (by omega)]
      exact hu.1.1 (K + j) (by omega)
    · have := tail (N - K) (Nat.le_refl _)
      rw [show K + (N - K) = N by omega, hu.2] at this
      rw [z2]; omega

/-- Two right texts one behind the other are right; the second begins where a rune does. -/
theorem join_two (s t : ByteArray) (N M : Nat) (hs : Right s N) (ht : Right t M) : Right (s ++ t) (N + M) ∧ it (s ++ t) N = s.size := by
  have hz : (s ++ t).size = s.size + t.size := ByteArray.size_append
  have h1 : ∀ i, i < s.size → bt (s ++ t) i = bt s i := by
    intro i hi
    rw [← bl_bt (s ++ t) i (by omega), ← bl_bt s i hi, bl_app]
    simp only [List.getD_eq_getElem?_getD]
    rw [List.getElem?_append_left (by rw [bl_len]; exact hi)]
  have h2 : ∀ i, i < t.size → bt (s ++ t) (s.size + i) = bt t i := by
    intro i hi
    rw [← bl_bt (s ++ t) (s.size + i) (by omega), ← bl_bt t i hi, bl_app]
    simp only [List.getD_eq_getElem?_getD]
    rw [List.getElem?_append_right (by rw [bl_len]; omega), bl_len, Nat.add_sub_cancel_left]
  have a1 := it_shift s (s ++ t) 0 0 N rfl hs.1.1 (by intro i hi; rw [hs.2] at hi; simpa using h1 i hi)
  have e1 : it (s ++ t) N = s.size := by have := (a1 N (Nat.le_refl _)).1; simpa [hs.2] using this
  have a2 := it_shift t (s ++ t) s.size N M e1 ht.1.1 (by intro i hi; rw [ht.2] at hi; exact h2 i hi)
  have e2 : it (s ++ t) (N + M) = (s ++ t).size := by rw [(a2 M (Nat.le_refl _)).1, ht.2, hz]
  have hp : ∀ j, j < N + M → 0 < (dc (s ++ t) (it (s ++ t) j)).2 := by
    intro j hj
    by_cases c : j < N
    · have := (a1 j (by omega)).2 c
      rw [Nat.zero_add] at this
      rw [this]; exact hs.1.1 j c
    · have := (a2 (j - N) (by omega)).2 (by omega)
      rw [show N + (j - N) = j by omega] at this
      rw [this]; exact ht.1.1 (j - N) (by omega)
  exact ⟨cnt_end _ (N + M) hp e2, e1⟩

/-- A place that may be named. -/
theorem place_of (u : ByteArray) (N : Nat) (hu : Right u N) (a : Int) (h : cke (bl u) a = 0) : ∃ K, K ≤ N ∧ a = (it u K : Int) := by
  have hz := cke_zero _ _ h
  rw [bl_len] at hz
  by_cases e : a < (u.size : Int)
  · obtain ⟨k, rfl⟩ : ∃ k : Nat, a = (k : Int) := ⟨a.toNat, by omega⟩
    have hk : k < u.size := by omega
    have hx : ins (bt u k : Int) = false := by
      cases hc : ins (bt u k : Int) with
      | false => rfl
      | true =>
        unfold cke at h
        rw [bl_len, if_neg (by omega), bat_bl u k hk, if_pos ⟨rfl, hc⟩] at h
        omega
    obtain ⟨j, h1, h2⟩ := (ins_begin u N hu k hk).1 hx
    exact ⟨j, by omega, by omega⟩
  · exact ⟨N, Nat.le_refl _, by rw [hu.2]; omega⟩
theorem place_ok (u : ByteArray) (N K : Nat) (hu : Right u N) (hK : K ≤ N) : cke (bl u) (it u K : Int) = 0 := by
  have hle := it_le u K
  unfold cke
  rw [bl_len, if_neg (by omega)]
  by_cases e : it u K < u.size
  · have hKN : K < N := by
      rcases Nat.lt_or_ge K N with c | c
      · exact c
      · have : K = N := by omega
        subst this
        rw [hu.2] at e
        omega
    have hi := (ins_begin u N hu (it u K) e).2 ⟨K, hKN, rfl⟩
    rw [bat_bl u _ e, if_neg (by rw [hi]; simp)]
  · have : it u K = u.size := by omega
    rw [this, ← bl_len u, bat_end, if_neg (by simp)]

/-- Cut at a place that may be named. -/
theorem cut_at (u : ByteArray) (N : Nat) (hu : Right u N) (a : Int) (h : cke (bl u) a = 0) : ∃ K M, Right (u.extract 0 a.toNat) K ∧ Right (u.extract a.toNat u.size) M := by
  obtain ⟨K, hK, rfl⟩ := place_of u N hu a h
  rw [Int.toNat_natCast]
  obtain ⟨c1, c2⟩ := cut_right u N K hu hK
  exact ⟨_, _, c1, c2⟩

theorem ext_app (u : ByteArray) (i : Nat) (h : i ≤ u.size) : u.extract 0 i ++ u.extract i u.size = u := by
  apply bl_inj
  rw [bl_app, bl_ext, bl_ext, List.drop_zero, ← bl_len u, List.take_length, List.take_append_drop]

theorem spe_parts (l : List Nat) (a b : Int) (h : spe l a b = 0) : cke l a = 0 ∧ cke l b = 0 := by
  unfold spe at h
  by_cases c : a < 0 ∨ (l.length : Int) < b ∨ b < a
  · rw [if_pos c] at h; omega
  · rw [if_neg c] at h
    by_cases c2 : cke l a = 0
    · rw [if_neg (by simpa using c2)] at h
      exact ⟨c2, h⟩
    · rw [if_pos c2] at h
      exact absurd h c2
theorem spe_of (l : List Nat) (a b : Int) (h1 : 0 ≤ a ∧ b ≤ (l.length : Int) ∧ a ≤ b) (h2 : cke l a = 0) (h3 : cke l b = 0) : spe l a b = 0 := by
  unfold spe
  rw [if_neg (by omega), if_neg (by simpa using h2), h3]

theorem bat_drop (l : List Nat) (i : Nat) (a : Int) (h : 0 ≤ a) (hi : i ≤ l.length) : bat (l.drop i) a = bat l ((i : Int) + a) := by
  unfold bat
  simp only [List.length_drop]
  by_cases c : a < ((l.length - i : Nat) : Int)
  · rw [if_pos ⟨h, c⟩, if_pos (by omega)]
    congr 1
    simp only [List.getD_eq_getElem?_getD, List.getElem?_drop]
    congr 2
    omega
  · rw [if_neg (by omega), if_neg (by omega)]
theorem cke_drop (l : List Nat) (i : Nat) (a : Int) (h : 0 ≤ a) (hi : i ≤ l.length) (hc : cke l ((i : Int) + a) = 0) : cke (l.drop i) a = 0 := by
  have hz := cke_zero _ _ hc
  unfold cke at hc ⊢
  simp only [List.length_drop] at *
  rw [if_neg (by omega)] at hc
  rw [if_neg (by omega), bat_drop l i a h hi]
  exact hc

/-- A part between two places that may be named is right. -/
theorem part_right (u : ByteArray) (N : Nat) (hu : Right u N) (i j : Nat) (h : spe (bl u) (i : Int) (j : Int) = 0) : ∃ K, Right (u.extract i j) K := by
  have hz := spe_zero _ _ _ h
  rw [bl_len] at hz
  obtain ⟨p1, p2⟩ := spe_parts _ _ _ h
  obtain ⟨K, M, c1, c2⟩ := cut_at u N hu (i : Int) p1
  rw [Int.toNat_natCast] at c2
  have e : bl (u.extract i u.size) = (bl u).drop i := by rw [bl_ext, ← bl_len u, List.take_length]
  have p3 : cke (bl (u.extract i u.size)) ((j - i : Nat) : Int) = 0 := by
    rw [e]
    refine cke_drop _ _ _ (by omega) (by rw [bl_len]; omega) ?_
    rw [show (i : Int) + ((j - i : Nat) : Int) = (j : Int) by omega]
    exact p2
  obtain ⟨K', M', d1, d2⟩ := cut_at _ M c2 _ p3
  rw [Int.toNat_natCast] at d1
  refine ⟨K', ?_⟩
  have : (u.extract i u.size).extract 0 (j - i) = u.extract i j := by
    apply bl_inj
    rw [bl_ext, e, bl_ext, List.drop_zero, List.drop_take]
  rw [← this]
  exact d1
end Go.Proofs.Ytfikmlgmklnlaab
