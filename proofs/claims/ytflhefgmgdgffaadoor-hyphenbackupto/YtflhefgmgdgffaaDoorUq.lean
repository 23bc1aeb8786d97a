/-
  Plain facts of right texts: as many bytes that aren't from 128 to 191 as runes; two right texts one behind the other; a right text cut between runes. No program in it.
-/
import Derived.Test.YtflhefgmgdgffaaDoorUm
namespace Go.Proofs.YtflhefgmgdgffaaDoor
open Go.RowKit
set_option linter.unusedSimpArgs false
set_option linter.unusedVariables false

/-- How many of the first bytes aren't from 128 to 191. -/
def outs (s : ByteArray) : Nat → Nat
  | 0 => 0
  | k + 1 => outs s k + if ins (bt s k : Int) = true then 0 else 1
theorem outs_le (s : ByteArray) : ∀ k, outs s k ≤ k
  | 0 => Nat.le_refl _
  | k + 1 => by have := outs_le s k; simp only [outs]; split <;> omega
theorem outs_succ (s : ByteArray) (k : Nat) : outs s (k + 1) = outs s k + if ins (bt s k : Int) = true then 0 else 1 := rfl
theorem outs_run (s : ByteArray) (j : Nat) : ∀ d, it s j + d + 1 ≤ it s (j + 1) → outs s (it s j + d + 1) = outs s (it s j) + 1 := by
  intro d
  induction d with
  | zero =>
    intro h
    have hi := ins_run s j (it s j) (by omega) (by omega)
    simp only [Nat.add_zero, outs]
    rw [if_neg (by rw [hi]; omega)]
  | succ d ih =>
    intro h
    have hi := ins_run s j (it s j + d + 1) (by omega) (by omega)
    show outs s (it s j + d + 1 + 1) = _
    rw [outs_succ, if_pos (by rw [hi]; omega)]
    exact ih (by omega)
theorem outs_it (s : ByteArray) (N : Nat) (h : ∀ j, j < N → 0 < (dc s (it s j)).2) : ∀ j, j ≤ N → outs s (it s j) = j := by
  intro j
  induction j with
  | zero => intro _; rfl
  | succ j ih =>
    intro hj
    have hp := h j (by omega)
    have he : it s (j + 1) = it s j + (dc s (it s j)).2 := rfl
    have := outs_run s j ((dc s (it s j)).2 - 1) (by omega)
    rw [show it s j + ((dc s (it s j)).2 - 1) + 1 = it s (j + 1) by omega, ih (by omega)] at this
    exact this
theorem outs_all (s : ByteArray) (N : Nat) (h : Right s N) : outs s s.size = N := by
  rw [← h.2]; exact outs_it s N h.1.1 N (Nat.le_refl _)

/-- Texts that have the same bytes up to where the first has K runes go the same way so far; c: how far behind. -/
theorem it_shift (s t : ByteArray) (c : Nat) (j0 : Nat) (K : Nat) (h0 : it t j0 = c) (h : ∀ j, j < K → 0 < (dc s (it s j)).2) (hb : ∀ i, i < it s K → bt t (c + i) = bt s i) :
    ∀ k, k ≤ K → it t (j0 + k) = c + it s k ∧ (k < K → dc t (it t (j0 + k)) = dc s (it s k)) := by
  intro k
  induction k with
  | zero =>
    intro _
    refine ⟨by simpa [it] using h0, fun hk => ?_⟩
    rw [Nat.add_zero, h0]
    refine dc_same s t (it s 0) c (h 0 hk) (fun i hi => ?_)
    have hg := it_grow s K h K (Nat.le_refl _) 1 (by omega)
    have e1 : it s 1 = it s 0 + (dc s (it s 0)).2 := rfl
    have := hb (it s 0 + i) (by omega)
    simpa [it] using this
  | succ k ih =>
    intro hk
    obtain ⟨e1, e2⟩ := ih (by omega)
    have e3 := e2 (by omega)
    have e4 : it t (j0 + (k + 1)) = c + it s (k + 1) := by
      show it t (j0 + k + 1) = _
      simp only [it]
      rw [e3, e1]; omega
    refine ⟨e4, fun hk' => ?_⟩
    rw [e4]
    refine dc_same s t (it s (k + 1)) (c + it s (k + 1)) (h (k + 1) hk') (fun i hi => ?_)
    have hg := it_grow s K h K (Nat.le_refl _) (k + 2) (by omega)
    have e5 : it s (k + 2) = it s (k + 1) + (dc s (it s (k + 1))).2 := rfl
    have := hb (it s (k + 1) + i) (by omega)
    rw [Nat.add_assoc]; exact this

theorem cnt_end (s : ByteArray) (N : Nat) (h : ∀ j, j < N → 0 < (dc s (it s j)).2) (he : it s N = s.size) : Right s N :=
  ⟨⟨h, by rw [he, dc_out s _ (by omega)]⟩, he⟩

theorem lns_shift (s t : ByteArray) (j0 K : Nat) (h : ∀ k, k < K → rn t (j0 + k) = rn s k) : ∀ k, k ≤ K → lns t (j0 + k) = lns t j0 + lns s k := by
  intro k
  induction k with
  | zero => intro _; rfl
  | succ k ih =>
    intro hk
    show lns t (j0 + k + 1) = _
    simp only [lns]
    rw [ih (by omega), h k (by omega)]
    omega

/-- Two right texts one behind the other are right, with the runes of both. -/
theorem join_right (s t u : ByteArray) (N M : Nat) (hs : Right s N) (ht : Right t M) (hz : u.size = s.size + t.size)
    (h1 : ∀ i, i < s.size → bt u i = bt s i) (h2 : ∀ i, i < t.size → bt u (s.size + i) = bt t i) :
    Right u (N + M) ∧ lns u (N + M) = lns s N + lns t M := by
  have a1 := it_shift s u 0 0 N rfl hs.1.1 (by intro i hi; rw [hs.2] at hi; simpa using h1 i hi)
  have e1 : it u N = s.size := by have := (a1 N (Nat.le_refl _)).1; simpa [hs.2] using this
  have a2 := it_shift t u s.size N M e1 ht.1.1 (by intro i hi; rw [ht.2] at hi; exact h2 i hi)
  have e2 : it u (N + M) = u.size := by rw [(a2 M (Nat.le_refl _)).1, ht.2, hz]
  have hp : ∀ j, j < N + M → 0 < (dc u (it u j)).2 := by
    intro j hj
    by_cases c : j < N
    · have := (a1 j (by omega)).2 c
      rw [Nat.zero_add] at this
      rw [this]; exact hs.1.1 j c
    · have := (a2 (j - N) (by omega)).2 (by omega)
      rw [show N + (j - N) = j by omega] at this
      rw [this]; exact ht.1.1 (j - N) (by omega)
  refine ⟨cnt_end u (N + M) hp e2, ?_⟩
  have l2 := lns_shift t u N M (by intro k hk; unfold rn; rw [(a2 k (by omega)).2 hk]) M (Nat.le_refl _)
  have l1 := lns_shift s u 0 N (by intro k hk; unfold rn; rw [(a1 k (by omega)).2 hk]) N (Nat.le_refl _)
  rw [Nat.zero_add] at l1
  simp only [lns] at l1
  omega

/-- A right text cut where rune number K begins gives two. -/
theorem cut_right (u : ByteArray) (N K : Nat) (hu : Right u N) (hK : K ≤ N) : Right (u.extract 0 (it u K)) K ∧ Right (u.extract (it u K) u.size) (N - K) := by
  have hle := it_le u K
  have z1 := ext_size u 0 (it u K) hle
  have z2 := ext_size u (it u K) u.size (Nat.le_refl _)
  have hpK : ∀ j, j < K → 0 < (dc u (it u j)).2 := fun j hj => hu.1.1 j (by omega)
  have a1 := it_shift u (u.extract 0 (it u K)) 0 0 K rfl hpK (by
    intro i hi
    rw [Nat.zero_add, bt_ext u 0 (it u K) i hle, if_pos (by omega)]; simp)
  have e1 : it (u.extract 0 (it u K)) K = (u.extract 0 (it u K)).size := by have := (a1 K (Nat.le_refl _)).1; rw [z1]; simpa using this
  refine ⟨cnt_end _ K ?_ e1, ?_⟩
  · intro j hj
    have := (a1 j (by omega)).2 hj
    rw [Nat.zero_add] at this
    rw [this]; exact hpK j hj
  · have tail : ∀ k, k ≤ N - K → it u (K + k) = it u K + it (u.extract (it u K) u.size) k := by
      intro k
      induction k with
      | zero => intro _; rfl
      | succ k ih =>
        intro hk
        show it u (K + k + 1) = _
        simp only [it]
        rw [ih (by omega), dc_tail]
        omega
    refine cnt_end _ (N - K) ?_ ?_
    · intro j hj
      rw [dc_tail, ← tail j (by omega)]
      exact hu.1.1 (K + j) (by omega)
    · have := tail (N - K) (Nat.le_refl _)
      rw [show K + (N - K) = N by omega, hu.2] at this
      rw [z2]; omega
/-- Where a place lies between runes, a rune begins, or the text ends. -/
theorem bnd_place (u : ByteArray) (N : Nat) (hu : Right u N) (a : Int) (h : bnd u a = 0) : ∃ K, K ≤ N ∧ a = (it u K : Int) := by
  unfold bnd at h
  by_cases c : a < 0 ∨ (u.size : Int) < a
  · rw [if_pos c] at h; omega
  · rw [if_neg c] at h
    by_cases e : a < (u.size : Int)
    · have hx : ins (bt u a.toNat : Int) = false := by
        cases hc : ins (bt u a.toNat : Int) with
        | false => rfl
        | true => rw [if_pos ⟨e, hc⟩] at h; omega
      obtain ⟨j, h1, h2⟩ := (ins_begin u N hu a.toNat (by omega)).1 hx
      exact ⟨j, by omega, by omega⟩
    · exact ⟨N, Nat.le_refl _, by rw [hu.2]; omega⟩
end Go.Proofs.YtflhefgmgdgffaaDoor
