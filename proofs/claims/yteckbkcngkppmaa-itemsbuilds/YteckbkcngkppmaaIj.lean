/-
  How a text's styles are cut into runs doesn't matter: each rune with its style, an empty run ahead of it, or all of it in one run. And such runs as they lie in memory.
-/
import Derived.Test.YteckbkcngkppmaaJz
import Derived.Test.YteckbkcngkppmaaJg
namespace Go.Proofs.Yteckbkcngkppmaa
open Go.RowKit
set_option linter.unusedSimpArgs false
set_option linter.unusedVariables false

/-- An empty run ahead of each rune, and the rune. -/
def cutL (t : ByteArray) (i : Nat) : Int := if i % 2 = 0 then 0 else (it t (i / 2 + 1) : Int) - (it t (i / 2) : Int)
theorem cutL_even (t : ByteArray) (j : Nat) : cutL t (2 * j) = 0 := by unfold cutL; rw [if_pos (by omega)]
theorem cutL_odd (t : ByteArray) (j : Nat) : cutL t (2 * j + 1) = (it t (j + 1) : Int) - (it t j : Int) := by
  unfold cutL
  rw [if_neg (by omega), show (2 * j + 1) / 2 = j by omega]
theorem cut_pre (t : ByteArray) (j : Nat) : pre (cutL t) (2 * j) = (it t j : Int) ∧ pre (cutL t) (2 * j + 1) = (it t j : Int) := by
  induction j with
  | zero => simp [pre, it, cutL]
  | succ j ih =>
    have e1 : pre (cutL t) (2 * j + 1 + 1) = pre (cutL t) (2 * j + 1) + cutL t (2 * j + 1) := rfl
    rw [cutL_odd] at e1
    have e2 : pre (cutL t) (2 * (j + 1)) = (it t (j + 1) : Int) := by
      show pre (cutL t) (2 * j + 1 + 1) = _
      omega
    refine ⟨e2, ?_⟩
    have e3 : pre (cutL t) (2 * (j + 1) + 1) = pre (cutL t) (2 * (j + 1)) + cutL t (2 * (j + 1)) := rfl
    rw [e3, cutL_even, e2]; omega
theorem cutL_in (t : ByteArray) (i : Nat) : 0 ≤ cutL t i ∧ cutL t i ≤ (t.size : Int) := by
  unfold cutL
  split
  · omega
  · have h1 := it_le t (i / 2 + 1)
    have h2 : it t (i / 2) ≤ it t (i / 2 + 1) := by simp only [it]; omega
    omega
theorem btw_at (t : ByteArray) (N : Nat) (hN : Right t N) (j : Nat) (hj : j ≤ N) : btw t N (it t j : Nat) = true := by
  unfold btw
  by_cases c : j < N
  · rw [decide_eq_true ⟨j, c, rfl⟩]; rfl
  · have e : j = N := by omega
    subst e
    rw [hN.2]; simp
theorem half (i : Nat) : ∃ j, i = 2 * j ∨ i = 2 * j + 1 := ⟨i / 2, by omega⟩
theorem cut_cr (t : ByteArray) (N n : Nat) (hN : Right t N) (y : Int) (hy : 0 ≤ y ∧ y < (n : Int)) (i : Nat) (hi : i < 2 * N) : cr t N n (cutL t) (fun _ => y) i = 0 := by
  unfold cr
  have hc := cutL_in t i
  obtain ⟨j, e | e⟩ := half i
  · subst e
    obtain ⟨p1, p2⟩ := cut_pre t j
    have := it_le t j
    rw [p1, p2, cutL_even, if_neg (by omega), if_pos hy, if_pos (btw_at t N hN j (by omega))]
  · subst e
    obtain ⟨p1, p2⟩ := cut_pre t j
    obtain ⟨p3, p4⟩ := cut_pre t (j + 1)
    have h1 := it_le t (j + 1)
    have h2 : it t j ≤ it t (j + 1) := by simp only [it]; omega
    have p3' : pre (cutL t) (2 * j + 1 + 1) = (it t (j + 1) : Int) := p3
    rw [p2, p3', cutL_odd, if_neg (by omega), if_pos hy, if_pos (btw_at t N hN (j + 1) (by omega))]
theorem crs_all (t : ByteArray) (N n : Nat) (Ln Ys : Nat → Int) (m : Nat) (h : ∀ i, i < m → cr t N n Ln Ys i = 0) : crs t N n Ln Ys m = 0 := by
  induction m with
  | zero => rfl
  | succ m ih => exact crs_next t N n Ln Ys m (ih (fun i hi => h i (by omega))) (h m (by omega))
theorem ck_join (t : ByteArray) (N n : Nat) (hN : Right t N) (y : Int) : ck t N n (2 * N) (cutL t) (fun _ => y) = ck t N n 1 (fun _ => (t.size : Int)) (fun _ => y) := by
  have hb : badAt t N < 0 := by rw [right_bad t N hN]; omega
  unfold ck
  rw [if_pos hb, if_pos hb]
  by_cases h0 : t.size = 0 ∨ early t = true
  · rw [if_pos h0, if_pos h0]
  rw [if_neg h0, if_neg h0]
  have hNp : 0 < N := by
    by_cases c : N = 0
    · subst c; have := hN.2; simp [it] at this; exact absurd (Or.inl (by omega)) h0
    · omega
  have e1 : crs t N n (fun _ => (t.size : Int)) (fun _ => y) 1 = cr t N n (fun _ => (t.size : Int)) (fun _ => y) 0 := rfl
  by_cases hy : 0 ≤ y ∧ y < (n : Int)
  · have c1 := crs_all t N n (cutL t) (fun _ => y) (2 * N) (fun i hi => cut_cr t N n hN y hy i hi)
    have c2 : cr t N n (fun _ => (t.size : Int)) (fun _ => y) 0 = 0 := by
      unfold cr
      have : btw t N (pre (fun _ => (t.size : Int)) (0 + 1)) = true := by
        have h := btw_at t N hN N (Nat.le_refl _)
        rw [hN.2] at h
        simpa [pre] using h
      rw [if_neg (by simp [pre]), if_pos hy, if_pos this]
    rw [c1, e1, c2, if_pos rfl, if_pos rfl, (cut_pre t N).1, hN.2]
    simp [pre]
  · have c1 : cr t N n (cutL t) (fun _ => y) 0 = 43 := by
      unfold cr
      rw [if_neg (by simp [pre, cutL]), if_neg hy]
    have c2 : cr t N n (fun _ => (t.size : Int)) (fun _ => y) 0 = 43 := by
      unfold cr
      rw [if_neg (by simp [pre]), if_neg hy]
    have c3 := crs_hit t N n (cutL t) (fun _ => y) 0 (2 * N) rfl (by rw [c1]; decide) (by omega)
    rw [c3, c1, e1, c2]
    rfl
theorem bs_congr (F : Nat → Sty) (n : Nat) (t : ByteArray) (Y Y' : Nat → Int) (K : Nat) (h : ∀ k, k < K → Y (it t k) = Y' (it t k)) : bs F n t Y K = bs F n t Y' K := by
  induction K with
  | zero => rfl
  | succ K ih =>
    simp only [bs]
    rw [ih (fun k hk => h k (by omega)), h K (by omega)]
theorem fin_join (F : Nat → Sty) (n : Nat) (t : ByteArray) (N : Nat) (hN : Right t N) (y : Int) : fin F n t (fun a => sta (cutL t) (fun _ => y) (2 * N) 0 (a : Nat)) N = fin F n t (fun a => sta (fun _ => (t.size : Int)) (fun _ => y) 1 0 (a : Nat)) N := by
  unfold fin
  rw [bs_congr F n t (fun a => sta (cutL t) (fun _ => y) (2 * N) 0 (a : Nat)) (fun a => sta (fun _ => (t.size : Int)) (fun _ => y) 1 0 (a : Nat)) N]
  intro k hk
  have h1 := it_mono t N hN.1.1 k N hk (Nat.le_refl _)
  have h2 := it_mono t N hN.1.1 k (k + 1) (by omega) (by omega)
  rw [hN.2] at h1
  have e1 : sta (cutL t) (fun _ => y) (2 * N) 0 ((it t k : Nat) : Int) = y := by
    have := sta_at (cutL t) (fun _ => y) (2 * N) (2 * k + 1) (it t k : Nat) (fun j hj => (cutL_in t j).1) (by omega) (by rw [(cut_pre t k).2]; omega) (by have := (cut_pre t (k + 1)).1; rw [show 2 * k + 1 + 1 = 2 * (k + 1) by omega, this]; omega) 0 (by omega)
    simpa [pre] using this
  show sta (cutL t) (fun _ => y) (2 * N) 0 ((it t k : Nat) : Int) = sta (fun _ => (t.size : Int)) (fun _ => y) 1 0 ((it t k : Nat) : Int)
  rw [e1]
  simp only [sta]
  rw [if_pos (by omega)]

theorem info_run : (Try.prog.info? 49).map (fun i => (i.zero, i.size, i.bytes)) = some (some (.agg #[.int .i64 0, .int .i64 0]), 2, 16) := by kernel_rfl
/-- Such runs' cells. -/
def rcs (t : ByteArray) (y : Int) : Nat → List Value
  | 0 => []
  | k + 1 => rcs t y k ++ [.int .i64 0, .int .i64 y, .int .i64 ((it t (k + 1) : Int) - (it t k : Int)), .int .i64 y]
theorem rcs_len (t : ByteArray) (y : Int) (k : Nat) : (rcs t y k).length = 4 * k := by
  induction k with
  | zero => rfl
  | succ k ih => simp [rcs, ih]; omega
theorem rcs_get (t : ByteArray) (y : Int) (k i : Nat) (h : i < 2 * k) : (rcs t y k)[i * 2]? = some (.int .i64 (cutL t i)) ∧ (rcs t y k)[i * 2 + 1]? = some (.int .i64 y) := by
  induction k with
  | zero => omega
  | succ k ih =>
    have hl := rcs_len t y k
    by_cases c : i < 2 * k
    · simp only [rcs]
      rw [List.getElem?_append_left (by omega), List.getElem?_append_left (by omega)]
      exact ih c
    · simp only [rcs]
      rw [List.getElem?_append_right (by omega), List.getElem?_append_right (by omega), hl]
      rcases (show i = 2 * k ∨ i = 2 * k + 1 by omega) with e | e
      · subst e
        rw [cutL_even, show 2 * k * 2 - 4 * k = 0 by omega, show 2 * k * 2 + 1 - 4 * k = 1 by omega]
        exact ⟨rfl, rfl⟩
      · subst e
        rw [cutL_odd, show (2 * k + 1) * 2 - 4 * k = 2 by omega, show (2 * k + 1) * 2 + 1 - 4 * k = 3 by omega]
        exact ⟨rfl, rfl⟩
theorem rcs_one (t : ByteArray) (y : Int) (k : Nat) : ∀ u ∈ ([.int .i64 0, .int .i64 y, .int .i64 ((it t (k + 1) : Int) - (it t k : Int)), .int .i64 y] : List Value), u.oneCell' = true := by
  intro u hu
  simp at hu
  rcases hu with rfl | rfl | rfl | rfl <;> rfl
theorem own_runs {w : World} {B N : Nat} {v : Value} {t : ByteArray} {y : Int} (h : w.ownsRow B 49 2 v (2 * N) (rcs t y N)) (hy : I64 y) (hs : t.size ≤ 65536) : ∃ ao cap, v = .slice ao (2 * N) cap ∧ RunsAt w ao (2 * N) (cutL t) (fun _ => y) := by
  obtain ⟨ao, cap, rfl⟩ := own_shape h
  refine ⟨ao, cap, rfl, fun i hi => ?_⟩
  have hc := cutL_in t i
  rcases ownsRow_forms h with ⟨_, h2⟩ | ⟨g, cp, e⟩
  · omega
  injection e with e1 e2 e3
  subst e1; subst e3
  obtain ⟨p1, p2⟩ := rcs_get t y N i hi
  have k1 := h.cellAt (i * 2) (by omega)
  have k2 := h.cellAt (i * 2 + 1) (by omega)
  exact ⟨⟨⟨by omega, by omega⟩, hy⟩, g, 0, rfl, by rw [Nat.zero_add, k1, p1], by rw [Nat.zero_add, k2, p2]⟩
theorem one_run_at (w : World) (l y : Int) (h1 : I64 l) (h2 : I64 y) : RunsAt (w.alloc (.cells #[.int .i64 l, .int .i64 y] 49)) (some ⟨w.heap.size, 0, none⟩) 1 (fun _ => l) (fun _ => y) := by
  intro i hi
  obtain rfl : i = 0 := by omega
  exact ⟨⟨h1, h2⟩, w.heap.size, 0, rfl, cell_first _ _ _ _, cell_first _ _ _ _⟩
theorem sm_refl (I : Nat → Itm) (n : Nat) : smI I I n n = true := (smI_iff I I n n).2 ⟨rfl, fun i _ => (like_iff _ _).2 rfl⟩
end Go.Proofs.Yteckbkcngkppmaa
