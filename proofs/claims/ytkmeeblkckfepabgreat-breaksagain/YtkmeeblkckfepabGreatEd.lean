/-
  Structs that a call gives back: their blocks are laid ahead of all, and written at the end.
-/
import Derived.Test.YtkmeeblkckfepabGreatEa
namespace Go.Proofs.YtkmeeblkckfepabGreat
open Go.RowKit
set_option linter.unusedSimpArgs false
set_option linter.unusedVariables false

theorem grown_below {w w' : World} {lb B : Nat} (h : w.grownBy w' (some lb)) (hl : B ≤ lb) (hB : B ≤ w.heap.size) : Below B w w' :=
  ⟨h.os, h.tape, h.output, h.size, fun k hk => h.block k (by omega) (fun e => by injection e; omega)⟩
theorem grown_trans {a b c : World} {row : Option Nat} (h : a.grownBy b row) (k : b.grownBy c row) : a.grownBy c row :=
  ⟨k.os.trans h.os, k.tape.trans h.tape, k.output.trans h.output, Nat.le_trans h.size k.size, fun i hi hr => (k.block i (Nat.lt_of_lt_of_le hi h.size) hr).trans (h.block i hi hr)⟩
theorem grown_set (w : World) (b i : Nat) (u : Value) : w.grownBy (w.setCell ⟨b, i, none⟩ u) (some b) :=
  ⟨rfl, rfl, rfl, by simp, fun k _ hk => heap_setCell_other w ⟨b, i, none⟩ k u (fun e => hk (by simp [e]))⟩
/-- 4 values in a block. -/
theorem cells4 {W : World} {rb : Nat} {v0 v1 v2 v3 : Value} {t : TypeId} (e : W.heap[rb]? = some (.cells #[v0, v1, v2, v3] t (0, 0))) : (W.cell? ⟨rb, 0, none⟩ = some v0 ∧ W.cell? ⟨rb, 1, none⟩ = some v1 ∧ W.cell? ⟨rb, 2, none⟩ = some v2 ∧ W.cell? ⟨rb, 3, none⟩ = some v3) ∧ W.frozen? ⟨rb, 0, none⟩ = false ∧ W.frozen? ⟨rb, 1, none⟩ = false ∧ W.frozen? ⟨rb, 2, none⟩ = false ∧ W.frozen? ⟨rb, 3, none⟩ = false := by
  refine ⟨⟨?_, ?_, ?_, ?_⟩, ?_, ?_, ?_, ?_⟩
  · simp [World.cell?, e]
  · simp [World.cell?, e]
  · simp [World.cell?, e]
  · simp [World.cell?, e]
  · unfold World.frozen?; rw [e]; simp
  · unfold World.frozen?; rw [e]; simp
  · unfold World.frozen?; rw [e]; simp
  · unfold World.frozen?; rw [e]; simp
def put4 (w : World) (rb : Nat) (v0 v1 v2 v3 : Value) : World := ((((w.setCell ⟨rb, 0, none⟩ v0).setCell ⟨rb, 1, none⟩ v1).setCell ⟨rb, 2, none⟩ v2).setCell ⟨rb, 3, none⟩ v3)
theorem put4_heap {w : World} {rb : Nat} {x0 x1 x2 x3 : Value} {t : TypeId} (h : w.heap[rb]? = some (.cells #[x0, x1, x2, x3] t (0, 0))) (v0 v1 v2 v3 : Value) : (put4 w rb v0 v1 v2 v3).heap[rb]? = some (.cells #[v0, v1, v2, v3] t (0, 0)) := by
  simp [put4, World.setCell, Array.getElem?_modify, h]
theorem put4_grown (w : World) (rb : Nat) (v0 v1 v2 v3 : Value) : w.grownBy (put4 w rb v0 v1 v2 v3) (some rb) := by
  unfold put4
  exact grown_trans (grown_trans (grown_trans (grown_set _ _ _ _) (grown_set _ _ _ _)) (grown_set _ _ _ _)) (grown_set _ _ _ _)
/-- A result of 4 values: its block is laid first, and written last. -/
theorem res4 (w : World) (rb : Nat) (hrb : w.heap.size = rb) : ∃ w0, w.alloc (.cells #[.int .i64 0, .int .i64 0, .int .i64 0, .int .i64 0] 88) = w0 ∧ Below rb w w0 ∧ w0.heap.size = rb + 1 ∧ ∀ W, Below w0.heap.size w0 W → ∀ v0 v1 v2 v3 : Value,
    ((W.cell? ⟨rb, 0, none⟩ = some (.int .i64 0) ∧ W.cell? ⟨rb, 1, none⟩ = some (.int .i64 0) ∧ W.cell? ⟨rb, 2, none⟩ = some (.int .i64 0) ∧ W.cell? ⟨rb, 3, none⟩ = some (.int .i64 0)) ∧ W.frozen? ⟨rb, 0, none⟩ = false ∧ W.frozen? ⟨rb, 1, none⟩ = false ∧ W.frozen? ⟨rb, 2, none⟩ = false ∧ W.frozen? ⟨rb, 3, none⟩ = false) ∧ ((put4 W rb v0 v1 v2 v3).cell? ⟨rb, 0, none⟩ = some v0 ∧ (put4 W rb v0 v1 v2 v3).cell? ⟨rb, 1, none⟩ = some v1 ∧ (put4 W rb v0 v1 v2 v3).cell? ⟨rb, 2, none⟩ = some v2 ∧ (put4 W rb v0 v1 v2 v3).cell? ⟨rb, 3, none⟩ = some v3) ∧ Below rb w (put4 W rb v0 v1 v2 v3) ∧ W.heap.size = (put4 W rb v0 v1 v2 v3).heap.size := by
  subst hrb
  refine ⟨_, rfl, (Below.refl _ _).alloc (Nat.le_refl _) _, by simp, fun W hb v0 v1 v2 v3 => ?_⟩
  have e : W.heap[w.heap.size]? = some (.cells #[.int .i64 0, .int .i64 0, .int .i64 0, .int .i64 0] 88 (0, 0)) := by rw [hb.block w.heap.size (by simp)]; exact heap_alloc_new w _
  have h0 : Below w.heap.size w W := ((Below.refl _ _).alloc (Nat.le_refl _) _).trans (hb.mono (by simp))
  refine ⟨cells4 e, (cells4 (put4_heap e v0 v1 v2 v3)).1, h0.trans (grown_below (put4_grown W w.heap.size v0 v1 v2 v3) (Nat.le_refl _) h0.size), by simp [put4]⟩
/-- 5 values in a block. -/
theorem cells5 {W : World} {rb : Nat} {v0 v1 v2 v3 v4 : Value} {t : TypeId} (e : W.heap[rb]? = some (.cells #[v0, v1, v2, v3, v4] t (0, 0))) : (W.cell? ⟨rb, 0, none⟩ = some v0 ∧ W.cell? ⟨rb, 1, none⟩ = some v1 ∧ W.cell? ⟨rb, 2, none⟩ = some v2 ∧ W.cell? ⟨rb, 3, none⟩ = some v3 ∧ W.cell? ⟨rb, 4, none⟩ = some v4) ∧ W.frozen? ⟨rb, 0, none⟩ = false ∧ W.frozen? ⟨rb, 1, none⟩ = false ∧ W.frozen? ⟨rb, 2, none⟩ = false ∧ W.frozen? ⟨rb, 3, none⟩ = false ∧ W.frozen? ⟨rb, 4, none⟩ = false := by
  refine ⟨⟨?_, ?_, ?_, ?_, ?_⟩, ?_, ?_, ?_, ?_, ?_⟩
  · simp [World.cell?, e]
  · simp [World.cell?, e]
  · simp [World.cell?, e]
  · simp [World.cell?, e]
  · simp [World.cell?, e]
  · unfold World.frozen?; rw [e]; simp
  · unfold World.frozen?; rw [e]; simp
  · unfold World.frozen?; rw [e]; simp
  · unfold World.frozen?; rw [e]; simp
  · unfold World.frozen?; rw [e]; simp
def put5 (w : World) (rb : Nat) (v0 v1 v2 v3 v4 : Value) : World := (((((w.setCell ⟨rb, 0, none⟩ v0).setCell ⟨rb, 1, none⟩ v1).setCell ⟨rb, 2, none⟩ v2).setCell ⟨rb, 3, none⟩ v3).setCell ⟨rb, 4, none⟩ v4)
theorem put5_heap {w : World} {rb : Nat} {x0 x1 x2 x3 x4 : Value} {t : TypeId} (h : w.heap[rb]? = some (.cells #[x0, x1, x2, x3, x4] t (0, 0))) (v0 v1 v2 v3 v4 : Value) : (put5 w rb v0 v1 v2 v3 v4).heap[rb]? = some (.cells #[v0, v1, v2, v3, v4] t (0, 0)) := by
  simp [put5, World.setCell, Array.getElem?_modify, h]
theorem put5_grown (w : World) (rb : Nat) (v0 v1 v2 v3 v4 : Value) : w.grownBy (put5 w rb v0 v1 v2 v3 v4) (some rb) := by
  unfold put5
  exact grown_trans (grown_trans (grown_trans (grown_trans (grown_set _ _ _ _) (grown_set _ _ _ _)) (grown_set _ _ _ _)) (grown_set _ _ _ _)) (grown_set _ _ _ _)
/-- A result of 5 values: its block is laid first, and written last. -/
theorem res5 (w : World) (rb : Nat) (hrb : w.heap.size = rb) : ∃ w0, w.alloc (.cells #[.int .i64 0, .int .i64 0, .int .i64 0, .int .i64 0, .bool false] 72) = w0 ∧ Below rb w w0 ∧ w0.heap.size = rb + 1 ∧ ∀ W, Below w0.heap.size w0 W → ∀ v0 v1 v2 v3 v4 : Value,
    ((W.cell? ⟨rb, 0, none⟩ = some (.int .i64 0) ∧ W.cell? ⟨rb, 1, none⟩ = some (.int .i64 0) ∧ W.cell? ⟨rb, 2, none⟩ = some (.int .i64 0) ∧ W.cell? ⟨rb, 3, none⟩ = some (.int .i64 0) ∧ W.cell? ⟨rb, 4, none⟩ = some (.bool false)) ∧ W.frozen? ⟨rb, 0, none⟩ = false ∧ W.frozen? ⟨rb, 1, none⟩ = false ∧ W.frozen? ⟨rb, 2, none⟩ = false ∧ W.frozen? ⟨rb, 3, none⟩ = false ∧ W.frozen? ⟨rb, 4, none⟩ = false) ∧ ((put5 W rb v0 v1 v2 v3 v4).cell? ⟨rb, 0, none⟩ = some v0 ∧ (put5 W rb v0 v1 v2 v3 v4).cell? ⟨rb, 1, none⟩ = some v1 ∧ (put5 W rb v0 v1 v2 v3 v4).cell? ⟨rb, 2, none⟩ = some v2 ∧ (put5 W rb v0 v1 v2 v3 v4).cell? ⟨rb, 3, none⟩ = some v3 ∧ (put5 W rb v0 v1 v2 v3 v4).cell? ⟨rb, 4, none⟩ = some v4) ∧ Below rb w (put5 W rb v0 v1 v2 v3 v4) ∧ W.heap.size = (put5 W rb v0 v1 v2 v3 v4).heap.size := by
  subst hrb
  refine ⟨_, rfl, (Below.refl _ _).alloc (Nat.le_refl _) _, by simp, fun W hb v0 v1 v2 v3 v4 => ?_⟩
  have e : W.heap[w.heap.size]? = some (.cells #[.int .i64 0, .int .i64 0, .int .i64 0, .int .i64 0, .bool false] 72 (0, 0)) := by rw [hb.block w.heap.size (by simp)]; exact heap_alloc_new w _
  have h0 : Below w.heap.size w W := ((Below.refl _ _).alloc (Nat.le_refl _) _).trans (hb.mono (by simp))
  refine ⟨cells5 e, (cells5 (put5_heap e v0 v1 v2 v3 v4)).1, h0.trans (grown_below (put5_grown W w.heap.size v0 v1 v2 v3 v4) (Nat.le_refl _) h0.size), by simp [put5]⟩
/-- 9 values in a block. -/
theorem cells9 {W : World} {rb : Nat} {v0 v1 v2 v3 v4 v5 v6 v7 v8 : Value} {t : TypeId} (e : W.heap[rb]? = some (.cells #[v0, v1, v2, v3, v4, v5, v6, v7, v8] t (0, 0))) : (W.cell? ⟨rb, 0, none⟩ = some v0 ∧ W.cell? ⟨rb, 1, none⟩ = some v1 ∧ W.cell? ⟨rb, 2, none⟩ = some v2 ∧ W.cell? ⟨rb, 3, none⟩ = some v3 ∧ W.cell? ⟨rb, 4, none⟩ = some v4 ∧ W.cell? ⟨rb, 5, none⟩ = some v5 ∧ W.cell? ⟨rb, 6, none⟩ = some v6 ∧ W.cell? ⟨rb, 7, none⟩ = some v7 ∧ W.cell? ⟨rb, 8, none⟩ = some v8) ∧ W.frozen? ⟨rb, 0, none⟩ = false ∧ W.frozen? ⟨rb, 1, none⟩ = false ∧ W.frozen? ⟨rb, 2, none⟩ = false ∧ W.frozen? ⟨rb, 3, none⟩ = false ∧ W.frozen? ⟨rb, 4, none⟩ = false ∧ W.frozen? ⟨rb, 5, none⟩ = false ∧ W.frozen? ⟨rb, 6, none⟩ = false ∧ W.frozen? ⟨rb, 7, none⟩ = false ∧ W.frozen? ⟨rb, 8, none⟩ = false := by
  refine ⟨⟨?_, ?_, ?_, ?_, ?_, ?_, ?_, ?_, ?_⟩, ?_, ?_, ?_, ?_, ?_, ?_, ?_, ?_, ?_⟩
  · simp [World.cell?, e]
  · simp [World.cell?, e]
  · simp [World.cell?, e]
  · simp [World.cell?, e]
  · simp [World.cell?, e]
  · simp [World.cell?, e]
  · simp [World.cell?, e]
  · simp [World.cell?, e]
  · simp [World.cell?, e]
  · unfold World.frozen?; rw [e]; simp
  · unfold World.frozen?; rw [e]; simp
  · unfold World.frozen?; rw [e]; simp
  · unfold World.frozen?; rw [e]; simp
  · unfold World.frozen?; rw [e]; simp
  · unfold World.frozen?; rw [e]; simp
  · unfold World.frozen?; rw [e]; simp
  · unfold World.frozen?; rw [e]; simp
  · unfold World.frozen?; rw [e]; simp
def put9 (w : World) (rb : Nat) (v0 v1 v2 v3 v4 v5 v6 v7 v8 : Value) : World := (((((((((w.setCell ⟨rb, 0, none⟩ v0).setCell ⟨rb, 1, none⟩ v1).setCell ⟨rb, 2, none⟩ v2).setCell ⟨rb, 3, none⟩ v3).setCell ⟨rb, 4, none⟩ v4).setCell ⟨rb, 5, none⟩ v5).setCell ⟨rb, 6, none⟩ v6).setCell ⟨rb, 7, none⟩ v7).setCell ⟨rb, 8, none⟩ v8)
theorem put9_heap {w : World} {rb : Nat} {x0 x1 x2 x3 x4 x5 x6 x7 x8 : Value} {t : TypeId} (h : w.heap[rb]? = some (.cells #[x0, x1, x2, x3, x4, x5, x6, x7, x8] t (0, 0))) (v0 v1 v2 v3 v4 v5 v6 v7 v8 : Value) : (put9 w rb v0 v1 v2 v3 v4 v5 v6 v7 v8).heap[rb]? = some (.cells #[v0, v1, v2, v3, v4, v5, v6, v7, v8] t (0, 0)) := by
  simp [put9, World.setCell, Array.getElem?_modify, h]
theorem put9_grown (w : World) (rb : Nat) (v0 v1 v2 v3 v4 v5 v6 v7 v8 : Value) : w.grownBy (put9 w rb v0 v1 v2 v3 v4 v5 v6 v7 v8) (some rb) := by
  unfold put9
  exact grown_trans (grown_trans (grown_trans (grown_trans (grown_trans (grown_trans (grown_trans (grown_trans (grown_set _ _ _ _) (grown_set _ _ _ _)) (grown_set _ _ _ _)) (grown_set _ _ _ _)) (grown_set _ _ _ _)) (grown_set _ _ _ _)) (grown_set _ _ _ _)) (grown_set _ _ _ _)) (grown_set _ _ _ _)
/-- A result of 9 values: its block is laid first, and written last. -/
theorem res9 (w : World) (rb : Nat) (hrb : w.heap.size = rb) : ∃ w0, w.alloc (.cells #[.int .i64 0, .int .i64 0, .int .i64 0, .int .i64 0, .bool false, .int .i64 0, .bool false, .int .i64 0, .int .i64 0] 52) = w0 ∧ Below rb w w0 ∧ w0.heap.size = rb + 1 ∧ ∀ W, Below w0.heap.size w0 W → ∀ v0 v1 v2 v3 v4 v5 v6 v7 v8 : Value,
    ((W.cell? ⟨rb, 0, none⟩ = some (.int .i64 0) ∧ W.cell? ⟨rb, 1, none⟩ = some (.int .i64 0) ∧ W.cell? ⟨rb, 2, none⟩ = some (.int .i64 0) ∧ W.cell? ⟨rb, 3, none⟩ = some (.int .i64 0) ∧ W.cell? ⟨rb, 4, none⟩ = some (.bool false) ∧ W.cell? ⟨rb, 5, none⟩ = some (.int .i64 0) ∧ W.cell? ⟨rb, 6, none⟩ = some (.bool false) ∧ W.cell? ⟨rb, 7, none⟩ = some (.int .i64 0) ∧ W.cell? ⟨rb, 8, none⟩ = some (.int .i64 0)) ∧ W.frozen? ⟨rb, 0, none⟩ = false ∧ W.frozen? ⟨rb, 1, none⟩ = false ∧ W.frozen? ⟨rb, 2, none⟩ = false ∧ W.frozen? ⟨rb, 3, none⟩ = false ∧ W.frozen? ⟨rb, 4, none⟩ = false ∧ W.frozen? ⟨rb, 5, none⟩ = false ∧ W.frozen? ⟨rb, 6, none⟩ = false ∧ W.frozen? ⟨rb, 7, none⟩ = false ∧ W.frozen? ⟨rb, 8, none⟩ = false) ∧ ((put9 W rb v0 v1 v2 v3 v4 v5 v6 v7 v8).cell? ⟨rb, 0, none⟩ = some v0 ∧ (put9 W rb v0 v1 v2 v3 v4 v5 v6 v7 v8).cell? ⟨rb, 1, none⟩ = some v1 ∧ (put9 W rb v0 v1 v2 v3 v4 v5 v6 v7 v8).cell? ⟨rb, 2, none⟩ = some v2 ∧ (put9 W rb v0 v1 v2 v3 v4 v5 v6 v7 v8).cell? ⟨rb, 3, none⟩ = some v3 ∧ (put9 W rb v0 v1 v2 v3 v4 v5 v6 v7 v8).cell? ⟨rb, 4, none⟩ = some v4 ∧ (put9 W rb v0 v1 v2 v3 v4 v5 v6 v7 v8).cell? ⟨rb, 5, none⟩ = some v5 ∧ (put9 W rb v0 v1 v2 v3 v4 v5 v6 v7 v8).cell? ⟨rb, 6, none⟩ = some v6 ∧ (put9 W rb v0 v1 v2 v3 v4 v5 v6 v7 v8).cell? ⟨rb, 7, none⟩ = some v7 ∧ (put9 W rb v0 v1 v2 v3 v4 v5 v6 v7 v8).cell? ⟨rb, 8, none⟩ = some v8) ∧ Below rb w (put9 W rb v0 v1 v2 v3 v4 v5 v6 v7 v8) ∧ W.heap.size = (put9 W rb v0 v1 v2 v3 v4 v5 v6 v7 v8).heap.size := by
  subst hrb
  refine ⟨_, rfl, (Below.refl _ _).alloc (Nat.le_refl _) _, by simp, fun W hb v0 v1 v2 v3 v4 v5 v6 v7 v8 => ?_⟩
  have e : W.heap[w.heap.size]? = some (.cells #[.int .i64 0, .int .i64 0, .int .i64 0, .int .i64 0, .bool false, .int .i64 0, .bool false, .int .i64 0, .int .i64 0] 52 (0, 0)) := by rw [hb.block w.heap.size (by simp)]; exact heap_alloc_new w _
  have h0 : Below w.heap.size w W := ((Below.refl _ _).alloc (Nat.le_refl _) _).trans (hb.mono (by simp))
  refine ⟨cells9 e, (cells9 (put9_heap e v0 v1 v2 v3 v4 v5 v6 v7 v8)).1, h0.trans (grown_below (put9_grown W w.heap.size v0 v1 v2 v3 v4 v5 v6 v7 v8) (Nat.le_refl _) h0.size), by simp [put9]⟩
end Go.Proofs.YtkmeeblkckfepabGreat
