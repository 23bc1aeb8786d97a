/-
  Lines put one below the other: what the program's stacked makes.
-/
import Derived.Test.YtjchioopfljjhabHq
namespace Go.Proofs.Ytjchioopfljjhab
open Go.RowKit
set_option linter.unusedSimpArgs false
set_option linter.unusedVariables false

/-- How far line k stands below the first one's top. -/
def ys (F : Nat → Lne) : Nat → Int
  | 0 => 0
  | k + 1 => ys F k + (F k).h
theorem ys_bound (F : Nat → Lne) (n : Nat) (h : ∀ j, j < n → 0 ≤ (F j).h ∧ (F j).h ≤ 1099511627776) : 0 ≤ ys F n ∧ ys F n ≤ n * 1099511627776 := by
  induction n with
  | zero => simp [ys]
  | succ n ih =>
    have h1 := ih (fun j hj => h j (by omega))
    have h2 := h n (by omega)
    show 0 ≤ ys F n + (F n).h ∧ ys F n + (F n).h ≤ _
    omega
/-- A copy of a line, with its runs there, that stands so far below. -/
def cpy (x : Lne) (ra : Option Addr) (rc : Nat) (y : Int) : Lne := { x with ra := ra, rc := rc, y := y }
/-- Runs of a copy, in a block of their own. -/
def RunB (w : World) (x : Lne) (ra : Option Addr) (P : Nat → Prop) : Prop := 0 < x.rn → ∃ b, ra = some ⟨b, 0, none⟩ ∧ P b ∧ ∃ arr : Array Value, w.heap[b]? = some (.cells arr 35 (0, 0)) ∧ x.rn * 2 ≤ arr.size ∧ ∀ i, i < x.rn → arr[i * 2]? = some (.int .i64 (x.L i)) ∧ arr[i * 2 + 1]? = some (.int .i64 (x.Y i))
theorem RunB.kept {w w' : World} {x : Lne} {ra : Option Addr} {P P' : Nat → Prop} (h : RunB w x ra P) (k : ∀ b, P b → b < w.heap.size → P' b ∧ w'.heap[b]? = w.heap[b]?) : RunB w' x ra P' := by
  intro hp
  obtain ⟨b, e, hb, arr, e0, h1, h2⟩ := h hp
  obtain ⟨k1, k2⟩ := k b hb (heap_lt e0)
  exact ⟨b, e, k1, arr, k2.trans e0, h1, h2⟩
theorem RunB.at {w : World} {x : Lne} {ra : Option Addr} {P : Nat → Prop} (h : RunB w x ra P) (hi : ∀ i, i < x.rn → I64 (x.L i) ∧ I64 (x.Y i)) : P2At P w ra x.rn x.L x.Y := by
  intro i hin
  obtain ⟨b, e, hb, arr, e0, h1, h2⟩ := h (by omega)
  obtain ⟨k1, k2⟩ := h2 i hin
  refine ⟨hi i hin, b, 0, e, hb, ?_, ?_⟩
  · rw [Nat.zero_add, cell_of_row w b _ arr _ (0, 0) e0]; exact k1
  · rw [Nat.zero_add, cell_of_row w b _ arr _ (0, 0) e0]; exact k2
theorem own_runb {w : World} {B : Nat} {x : Lne} {ao : Option Addr} {c : Nat} (h : w.ownsRow B 35 2 (.slice ao x.rn c) x.rn (rvs x.L x.Y x.rn)) : RunB w x ao (fun b => B ≤ b) := by
  intro hp
  rcases h.2 with ⟨e, h0⟩ | ⟨g, cap, cur, e, hB, hh, hcap, hmx, hsz, hx⟩
  · omega
  · injection e with e1 e2 e3
    subst e1
    have hc := h.cellAt
    refine ⟨g, rfl, hB, cur, hh, by rw [hsz]; omega, fun i hi => ?_⟩
    obtain ⟨p1, p2⟩ := rvs_get x.L x.Y x.rn i hi
    constructor
    · rw [← cell_of_row w g (i * 2) cur _ (0, 0) hh, hc (i * 2) (by omega)]; exact p1
    · rw [← cell_of_row w g (i * 2 + 1) cur _ (0, 0) hh, hc (i * 2 + 1) (by omega)]; exact p2
/-- Nine values put into a row. -/
def set9 (W : World) (A o : Nat) (v0 v1 v2 v3 v4 v5 v6 v7 v8 : Value) : World := (((((((((W.setCell ⟨A, o, none⟩ v0).setCell ⟨A, o + 1, none⟩ v1).setCell ⟨A, o + 2, none⟩ v2).setCell ⟨A, o + 3, none⟩ v3).setCell ⟨A, o + 4, none⟩ v4).setCell ⟨A, o + 5, none⟩ v5).setCell ⟨A, o + 6, none⟩ v6).setCell ⟨A, o + 7, none⟩ v7).setCell ⟨A, o + 8, none⟩ v8)
def ar9 (arr : Array Value) (o : Nat) (v0 v1 v2 v3 v4 v5 v6 v7 v8 : Value) : Array Value := (((((((((arr.setIfInBounds (o) v0).setIfInBounds (o + 1) v1).setIfInBounds (o + 2) v2).setIfInBounds (o + 3) v3).setIfInBounds (o + 4) v4).setIfInBounds (o + 5) v5).setIfInBounds (o + 6) v6).setIfInBounds (o + 7) v7).setIfInBounds (o + 8) v8)
theorem set9_heap {W : World} {A o : Nat} {arr : Array Value} {t : TypeId} (v0 v1 v2 v3 v4 v5 v6 v7 v8 : Value) (e : W.heap[A]? = some (.cells arr t (0, 0))) : (set9 W A o v0 v1 v2 v3 v4 v5 v6 v7 v8).heap[A]? = some (.cells (ar9 arr o v0 v1 v2 v3 v4 v5 v6 v7 v8) t (0, 0)) := by
  unfold set9 ar9
  exact arr_set _ (arr_set _ (arr_set _ (arr_set _ (arr_set _ (arr_set _ (arr_set _ (arr_set _ (arr_set _ e))))))))
theorem set9_grown (W : World) (A o : Nat) (v0 v1 v2 v3 v4 v5 v6 v7 v8 : Value) : W.grownBy (set9 W A o v0 v1 v2 v3 v4 v5 v6 v7 v8) (some A) := by
  unfold set9
  exact grown_trans (grown_trans (grown_trans (grown_trans (grown_trans (grown_trans (grown_trans (grown_trans (grown_set _ _ _ _) (grown_set _ _ _ _)) (grown_set _ _ _ _)) (grown_set _ _ _ _)) (grown_set _ _ _ _)) (grown_set _ _ _ _)) (grown_set _ _ _ _)) (grown_set _ _ _ _)) (grown_set _ _ _ _)
theorem ar9_size (arr : Array Value) (o : Nat) (v0 v1 v2 v3 v4 v5 v6 v7 v8 : Value) : (ar9 arr o v0 v1 v2 v3 v4 v5 v6 v7 v8).size = arr.size := by simp [ar9]
theorem ar9_far (arr : Array Value) (o j : Nat) (v0 v1 v2 v3 v4 v5 v6 v7 v8 : Value) (h : j < o) : (ar9 arr o v0 v1 v2 v3 v4 v5 v6 v7 v8)[j]? = arr[j]? := by
  unfold ar9
  rw [Array.getElem?_setIfInBounds_ne (by omega), Array.getElem?_setIfInBounds_ne (by omega), Array.getElem?_setIfInBounds_ne (by omega), Array.getElem?_setIfInBounds_ne (by omega), Array.getElem?_setIfInBounds_ne (by omega), Array.getElem?_setIfInBounds_ne (by omega), Array.getElem?_setIfInBounds_ne (by omega), Array.getElem?_setIfInBounds_ne (by omega), Array.getElem?_setIfInBounds_ne (by omega)]
theorem ar9_at (arr : Array Value) (o r : Nat) (v0 v1 v2 v3 v4 v5 v6 v7 v8 : Value) (hr : r < 9) (h : o + 8 < arr.size) : (ar9 arr o v0 v1 v2 v3 v4 v5 v6 v7 v8)[o + r]? = [v0, v1, v2, v3, v4, v5, v6, v7, v8][r]? := by
  unfold ar9
  rcases (show r = 0 ∨ r = 1 ∨ r = 2 ∨ r = 3 ∨ r = 4 ∨ r = 5 ∨ r = 6 ∨ r = 7 ∨ r = 8 by omega) with rfl | rfl | rfl | rfl | rfl | rfl | rfl | rfl | rfl
  · rw [Array.getElem?_setIfInBounds_ne (by omega), Array.getElem?_setIfInBounds_ne (by omega), Array.getElem?_setIfInBounds_ne (by omega), Array.getElem?_setIfInBounds_ne (by omega), Array.getElem?_setIfInBounds_ne (by omega), Array.getElem?_setIfInBounds_ne (by omega), Array.getElem?_setIfInBounds_ne (by omega), Array.getElem?_setIfInBounds_ne (by omega)]
    simp [Array.getElem?_setIfInBounds]; omega
  · rw [Array.getElem?_setIfInBounds_ne (by omega), Array.getElem?_setIfInBounds_ne (by omega), Array.getElem?_setIfInBounds_ne (by omega), Array.getElem?_setIfInBounds_ne (by omega), Array.getElem?_setIfInBounds_ne (by omega), Array.getElem?_setIfInBounds_ne (by omega), Array.getElem?_setIfInBounds_ne (by omega)]
    simp [Array.getElem?_setIfInBounds]; omega
  · rw [Array.getElem?_setIfInBounds_ne (by omega), Array.getElem?_setIfInBounds_ne (by omega), Array.getElem?_setIfInBounds_ne (by omega), Array.getElem?_setIfInBounds_ne (by omega), Array.getElem?_setIfInBounds_ne (by omega), Array.getElem?_setIfInBounds_ne (by omega)]
    simp [Array.getElem?_setIfInBounds]; omega
  · rw [Array.getElem?_setIfInBounds_ne (by omega), Array.getElem?_setIfInBounds_ne (by omega), Array.getElem?_setIfInBounds_ne (by omega), Array.getElem?_setIfInBounds_ne (by omega), Array.getElem?_setIfInBounds_ne (by omega)]
    simp [Array.getElem?_setIfInBounds]; omega
  · rw [Array.getElem?_setIfInBounds_ne (by omega), Array.getElem?_setIfInBounds_ne (by omega), Array.getElem?_setIfInBounds_ne (by omega), Array.getElem?_setIfInBounds_ne (by omega)]
    simp [Array.getElem?_setIfInBounds]; omega
  · rw [Array.getElem?_setIfInBounds_ne (by omega), Array.getElem?_setIfInBounds_ne (by omega), Array.getElem?_setIfInBounds_ne (by omega)]
    simp [Array.getElem?_setIfInBounds]; omega
  · rw [Array.getElem?_setIfInBounds_ne (by omega), Array.getElem?_setIfInBounds_ne (by omega)]
    simp [Array.getElem?_setIfInBounds]; omega
  · rw [Array.getElem?_setIfInBounds_ne (by omega)]
    simp [Array.getElem?_setIfInBounds]; omega
  · simp [Array.getElem?_setIfInBounds]; omega
/-- The first m of n copies, in a row that lies at A; the blocks of the runs bear the lines' numbers. -/
structure Stk (w : World) (A n m : Nat) (F : Nat → Lne) (R : Nat → Option Addr) (C : Nat → Nat) (μ : Nat → Option Nat) : Prop where
  row : ∃ arr : Array Value, w.heap[A]? = some (.cells arr 27 (0, 0)) ∧ arr.size = n * 9 ∧ ∀ k j, k < m → j < 9 → arr[k * 9 + j]? = ((cpy (F k) (R k) (C k) (ys F k)).cells)[j]?
  run : ∀ k, k < m → RunB w (F k) (R k) (fun b => A < b ∧ μ b = some k)
  lab : μ A = none
theorem Stk.step {w w' : World} {A n m : Nat} {F : Nat → Lne} {R : Nat → Option Addr} {C : Nat → Nat} {μ : Nat → Option Nat} (h : Stk w A n m F R C μ) (hm : m < n) (ra : Option Addr) (rc : Nat)
    (k1 : ∀ b, b < w.heap.size → b ≠ A → w'.heap[b]? = w.heap[b]?)
    (k2 : ∀ arr : Array Value, w.heap[A]? = some (.cells arr 27 (0, 0)) → w'.heap[A]? = some (.cells (ar9 arr (m * 9) (.string (F m).tx) (.slice ra (F m).rn rc) (.int .i64 (F m).num) (.int .i64 (F m).den) (.int .i64 (F m).h) (.bool (F m).hy) (.int .i64 (ys F m)) (.bool (F m).bg) (.bool (F m).en)) 27 (0, 0)))
    (k3 : RunB w' (F m) ra (fun b => w.heap.size ≤ b)) : ∃ R' C' μ', Stk w' A n (m + 1) F R' C' μ' := by
  obtain ⟨arr, e0, hs, hg⟩ := h.row
  have hA := heap_lt e0
  refine ⟨fun j => if j = m then ra else R j, fun j => if j = m then rc else C j, fun b => if w.heap.size ≤ b then some m else μ b, ⟨_, k2 arr e0, by rw [ar9_size, hs], ?_⟩, ?_, ?_⟩
  · intro k j hk hj
    by_cases c : k = m
    · subst c
      rw [ar9_at _ _ _ _ _ _ _ _ _ _ _ _ hj (by omega), if_pos rfl, if_pos rfl]
      rfl
    · rw [ar9_far _ _ _ _ _ _ _ _ _ _ _ _ (by omega), if_neg c, if_neg c]
      exact hg k j (by omega) hj
  · intro k hk
    by_cases c : k = m
    · subst c
      simp only [if_pos]
      exact k3.kept (fun b hb _ => ⟨⟨by omega, by rw [if_pos hb]⟩, rfl⟩)
    · simp only [if_neg c]
      refine (h.run k (by omega)).kept (fun b hb hl => ⟨⟨hb.1, ?_⟩, k1 b hl (by omega)⟩)
      rw [if_neg (by omega)]
      exact hb.2
  · show (if _ then _ else _) = _
    rw [if_neg (by omega)]
    exact h.lab
set_option maxRecDepth 100000 in
theorem append_rvs {w : World} {ops : Array Oper} {rest : List Oper} {o : Oper} {a : Act} {Q : Exit → Act → World → Prop} (hgd : o.guard = none) (s x : Operand)
    (ho : o.op = .call { callee := .builtin .append, args := #[s, x], argTypes := #[25, 25] })
    (hs : a.eval s = .slice none 0 0) (S : Nat → Prop) (ao : Option Addr) (m c : Nat) (L Y : Nat → Int) (hx : a.eval x = .slice ao m c) (hp : P2At S w ao m L Y) (hm : m ≤ 1000)
    (h : ∀ v' w', w'.ownsRow w.heap.size 35 2 v' m (rvs L Y m) → w.grownBy w' none → wpList Try.prog ops Q rest (a.put o.dst v') w') : wpList Try.prog ops Q (o :: rest) a w := by
  obtain ⟨i0, hi, hz0, hz1, hz2⟩ := info_parts info_run
  have hown : w.ownsRow w.heap.size 35 2 (.slice none 0 0) 0 [] := World.ownsRow_nil _ _ _ _
  cases ao with
  | none =>
    have hm0 : m = 0 := by
      by_cases c : m = 0
      · exact c
      · obtain ⟨b, off, e, -⟩ := hp.form (by omega)
        cases e
    subst hm0
    refine wpList_plain hgd fun K hK => ?_
    have hrun := run_append_nothing (P := Try.prog) (w := w) w.heap.size 25 o.type 35 i0 2 c Try.underlying25 hi _ _ _ hown
    unfold Oper.wp
    simp [execOp, ho, resolve, invoke, builtin, hs, hx, hrun, Result.andThen]
    exact hK _ _ (h _ w hown (World.grownBy.refl _ _))
  | some ad =>
    refine wpList_append_own _ hgd s x 25 ho w.heap.size 35 i0 _ 2 16 Try.underlying25 hi hz0 hz1 hz2 rfl (by decide) _ _ _ hs hown ad m c (rvs L Y m) hx (by rw [rvs_len]) ?_ (rvs_one L Y m) (by unfold maxLen; omega) (by omega) (Nat.le_refl _) (fun v' w' h2 h3 _ => h v' w' (by simpa using h2) (by simpa [Value.ownBlock] using h3))
    intro j u hj
    have hl : j < (rvs L Y m).length := (List.getElem?_eq_some_iff.1 hj).1
    rw [rvs_len] at hl
    obtain ⟨p1, p2⟩ := rvs_get L Y m (j / 2) (by omega)
    obtain ⟨-, b, off, e, -, c0, c1⟩ := hp (j / 2) (by omega)
    injection e with e
    subst e
    rw [Addr.add_lit]
    by_cases hpp : j % 2 = 0
    · have ej : j = j / 2 * 2 := by omega
      rw [← ej] at p1 c0
      rw [hj] at p1
      rw [c0, p1]
    · have ej : j = j / 2 * 2 + 1 := by omega
      rw [Nat.add_assoc, ← ej] at c1
      rw [← ej] at p2
      rw [hj] at p2
      rw [c1, p2]
theorem info_line : (Try.prog.info? 27).map (fun i => (i.zero, i.size, i.bytes)) = some (some (.agg #[.string ⟨#[]⟩, .slice none 0 0, .int .i64 0, .int .i64 0, .int .i64 0, .bool false, .int .i64 0, .bool false, .bool false]), 9, 88) := by kernel_rfl
end Go.Proofs.Ytjchioopfljjhab
