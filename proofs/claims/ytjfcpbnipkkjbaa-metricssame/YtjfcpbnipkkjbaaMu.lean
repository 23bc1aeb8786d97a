/-
  For the law on Same: copies of styles that the law itself makes, as they lie in memory; and plain facts on lists of styles alike.
-/
import Derived.Test.YtjfcpbnipkkjbaaMt
import Derived.Test.YtjfcpbnipkkjbaaNd
namespace Go.Proofs.Ytjfcpbnipkkjbaa
open Go.RowKit
set_option linter.unusedSimpArgs false
set_option linter.unusedVariables false

/-- The cells of styles. -/
def stv (H : Nat → Sty) : Nat → List Value
  | 0 => []
  | k + 1 => stv H k ++ (sv (H k)).toList
theorem sv_len (s : Sty) : (sv s).toList.length = 8 := rfl
theorem stv_len (H : Nat → Sty) (k : Nat) : (stv H k).length = k * 8 := by
  induction k with
  | zero => rfl
  | succ k ih => simp only [stv, List.length_append, sv_len, ih]; omega
theorem stv_get (H : Nat → Sty) (n i j : Nat) (hi : i < n) (hj : j < 8) : (stv H n)[i * 8 + j]? = (sv (H i))[j]? := by
  induction n with
  | zero => omega
  | succ n ih =>
    simp only [stv]
    by_cases c : i < n
    · rw [List.getElem?_append_left (by rw [stv_len]; omega)]
      exact ih c
    · have e : i = n := by omega
      subst e
      rw [List.getElem?_append_right (by rw [stv_len]; omega), stv_len, show i * 8 + j - i * 8 = j by omega]
      exact Array.getElem?_toList
theorem stv_same (H H' : Nat → Sty) (k : Nat) (h : ∀ i, i < k → H i = H' i) : stv H k = stv H' k := by
  induction k with
  | zero => rfl
  | succ k ih => simp only [stv]; rw [ih (fun i hi => h i (by omega)), h k (by omega)]
theorem sv_one (s : Sty) : ∀ u ∈ (sv s).toList, u.oneCell' = true := by
  intro u hu
  simp [sv] at hu
  rcases hu with rfl | rfl | rfl | rfl | rfl | rfl | rfl | rfl <;> rfl

/-- The first k copies, their ranges apart from the row that is appended to. -/
def Cop (F : Nat → Sty) (base : Nat) (w : World) (row : Option Nat) (k : Nat) (H : Nat → Sty) : Prop := ∀ i, i < k → Like (F i) (H i) ∧ ((H i).rn ≤ (H i).rc ∧ (H i).ra ≠ none) ∧
  RgsAt (fun b => base ≤ b ∧ some b ≠ row) w (H i).ra (H i).rn (H i).R ∧ ∀ b off, (H i).ra = some ⟨b, off, none⟩ → 0 < (H i).rn → ∀ j, w.frozen? ⟨b, j, none⟩ = false
theorem Cop.step {F : Nat → Sty} {base : Nat} {w w' : World} {row row' : Option Nat} {k : Nat} {H : Nat → Sty} (h : Cop F base w row k H) (hf : ∀ b, b < w.heap.size → some b ≠ row → w'.heap[b]? = w.heap[b]?)
    (hr : row' = row ∨ ∃ x, row' = some x ∧ w.heap.size ≤ x) : Cop F base w' row' k H := by
  have kp : Kp (fun b => base ≤ b ∧ some b ≠ row) (fun b => base ≤ b ∧ some b ≠ row') w w' := by
    intro b i u hs hc
    have hbl := World.block_lt_of_cell? w _ hc
    refine ⟨⟨hs.1, ?_⟩, ?_⟩
    · rcases hr with e | ⟨x, e, hx⟩
      · rw [e]; exact hs.2
      · rw [e]
        intro c
        have : b = x := Option.some.inj c
        have hbl' : b < w.heap.size := hbl
        omega
    · rw [World.cell?_of_block (w := w) (hf b hbl hs.2)]; exact hc
  intro i hi
  obtain ⟨h1, h2, h3, h4⟩ := h i hi
  refine ⟨h1, h2, h3.keep kp, ?_⟩
  intro b off e h0 j
  obtain ⟨-, b', off', e', hs, c0, -, -⟩ := h3 0 h0
  rw [e] at e'
  have e1 : b = b' := congrArg Addr.block (Option.some.inj e')
  subst e1
  rw [World.frozen?_of_block (w := w) (hf b (World.block_lt_of_cell? w _ c0) hs.2)]
  exact h4 b off e h0 j
theorem Cop.more {F : Nat → Sty} {base : Nat} {w : World} {row : Option Nat} {k : Nat} {H : Nat → Sty} (h : Cop F base w row k H) (g : Sty) (h1 : Like (F k) g) (h2 : g.rn ≤ g.rc ∧ g.ra ≠ none)
    (h3 : RgsAt (fun b => base ≤ b ∧ some b ≠ row) w g.ra g.rn g.R) (h4 : ∀ b off, g.ra = some ⟨b, off, none⟩ → 0 < g.rn → ∀ j, w.frozen? ⟨b, j, none⟩ = false) : Cop F base w row (k + 1) (fun i => if i = k then g else H i) := by
  intro i hi
  by_cases c : i = k
  · subst c; simp only [if_pos]; exact ⟨h1, h2, h3, h4⟩
  · simp only [if_neg c]; exact h i (by omega)

/-- The copies as styles in memory. -/
theorem own_at {F : Nat → Sty} {base : Nat} {w : World} {v : Value} {n : Nat} {H : Nat → Sty} (ho : w.ownsRow base 35 8 v n (stv H n)) (hc : Cop F base w v.ownBlock n H) (hk : ∀ i, i < n → StyOk (F i)) (h0 : 0 < n) :
    ∃ g cap, v = .slice (some ⟨g, 0, none⟩) n cap ∧ base ≤ g ∧ StysAt (fun _ => True) w (some ⟨g, 0, none⟩) n H ∧ ∀ j, w.frozen? ⟨g, j, none⟩ = false := by
  rcases ho.2 with ⟨rfl, h1⟩ | ⟨g, cap, cur, rfl, hg, hh, hle, hm, hcs, ht⟩
  · omega
  · refine ⟨g, cap, rfl, hg, ?_, fun j => ho.frozenAt j⟩
    intro i hi
    obtain ⟨c1, c2, c3, c4⟩ := hc i hi
    have hx : ∀ j, j < 8 → w.cell? ⟨g, 0 + i * 8 + j, none⟩ = (sv (H i))[j]? := by
      intro j hj
      rw [Nat.zero_add, ho.cellAt (i * 8 + j) (by omega), stv_get H n i j hi hj]
    refine ⟨(hk i hi).like c1 c2.1 (fun e => absurd e c2.2), c3.keep (fun b i u _ hc => ⟨trivial, hc⟩), g, 0, rfl, trivial, ?_⟩
    exact ⟨hx 0 (by omega), hx 1 (by omega), hx 2 (by omega), hx 3 (by omega), hx 4 (by omega), hx 5 (by omega), hx 6 (by omega), hx 7 (by omega)⟩

theorem eqR_symm (R R' : Nat → Rg) (n : Nat) : eqR R R' n = eqR R' R n := by
  induction n with
  | zero => rfl
  | succ n ih =>
    show (eqR R R' n && eqG (R n) (R' n)) = (eqR R' R n && eqG (R' n) (R n))
    rw [ih]
    have : eqG (R n) (R' n) = eqG (R' n) (R n) := by
      unfold eqG
      rw [Bool.beq_comm (a := (R n).lo), Bool.beq_comm (a := (R n).hi), Bool.beq_comm (a := (R n).wd)]
    rw [this]
theorem ckc_like {F H : Nat → Sty} {n : Nat} (h : ∀ i, i < n → Like (F i) (H i)) : ckc H n = ckc F n := by
  have : ∀ k, k ≤ n → ffc H k = ffc F k := by
    intro k
    induction k with
    | zero => intro _; rfl
    | succ k ih =>
      intro hk
      show (if ffc H k = 0 then flt (H k) else ffc H k) = (if ffc F k = 0 then flt (F k) else ffc F k)
      rw [ih (by omega), flt_like (h k (by omega))]
  unfold ckc
  rw [this n (Nat.le_refl _)]
theorem eqS_like2 {s g s' g' : Sty} (h : Like s g) (h' : Like s' g') : eqS g g' = eqS s s' := by
  unfold eqS eqM
  rw [h.h, h.sp, h.st, h.sh, h.hy, h.ot, h.keep, h.rn, h.R, h'.h, h'.sp, h'.st, h'.sh, h'.hy, h'.ot, h'.keep, h'.rn, h'.R]
theorem sameS_like {F G F' G' : Nat → Sty} {n m : Nat} (h : ∀ i, i < n → Like (F i) (G i)) (h' : ∀ i, i < m → Like (F' i) (G' i)) : sameS G n G' m = sameS F n F' m := by
  unfold sameS
  by_cases c : n = m
  · subst c
    have : ∀ k, k ≤ n → eqF G G' k = eqF F F' k := by
      intro k
      induction k with
      | zero => intro _; rfl
      | succ k ih =>
        intro hk
        show (eqF G G' k && eqS (G k) (G' k)) = (eqF F F' k && eqS (F k) (F' k))
        rw [ih (by omega), eqS_like2 (h k (by omega)) (h' k (by omega))]
    rw [this n (Nat.le_refl _)]
  · simp [c]
theorem eqS_symm (s g : Sty) : eqS s g = eqS g s := by
  unfold eqS eqM
  by_cases c : s.rn = g.rn
  · rw [c, eqR_symm s.R g.R]
    have e1 : decide (s.h = g.h) = decide (g.h = s.h) := by simp [eq_comm]
    have e2 : decide (s.sp = g.sp) = decide (g.sp = s.sp) := by simp [eq_comm]
    have e3 : decide (s.st = g.st) = decide (g.st = s.st) := by simp [eq_comm]
    have e4 : decide (s.sh = g.sh) = decide (g.sh = s.sh) := by simp [eq_comm]
    have e5 : decide (s.hy = g.hy) = decide (g.hy = s.hy) := by simp [eq_comm]
    have e6 : decide (s.ot = g.ot) = decide (g.ot = s.ot) := by simp [eq_comm]
    have e7 : (s.keep == g.keep) = (g.keep == s.keep) := by cases s.keep <;> cases g.keep <;> rfl
    rw [e1, e2, e3, e4, e5, e6, e7]
  · have c' : ¬ g.rn = s.rn := fun e => c e.symm
    simp [c, c']
theorem sameS_symm (F G : Nat → Sty) (n m : Nat) : sameS F n G m = sameS G m F n := by
  unfold sameS
  by_cases c : n = m
  · subst c
    have : ∀ k, eqF F G k = eqF G F k := by
      intro k
      induction k with
      | zero => rfl
      | succ k ih =>
        show (eqF F G k && eqS (F k) (G k)) = (eqF G F k && eqS (G k) (F k))
        rw [ih, eqS_symm]
    rw [this]
  · have c' : ¬ m = n := fun e => c e.symm
    simp [c, c']
theorem sameS_refl (F : Nat → Sty) (n : Nat) : sameS F n F n = true := by
  unfold sameS
  have : ∀ k, eqF F F k = true := by
    intro k
    induction k with
    | zero => rfl
    | succ k ih =>
      show (eqF F F k && eqS (F k) (F k)) = true
      rw [ih, eqS_like (Like.refl _)]; rfl
  rw [this]; simp
end Go.Proofs.Ytjfcpbnipkkjbaa
