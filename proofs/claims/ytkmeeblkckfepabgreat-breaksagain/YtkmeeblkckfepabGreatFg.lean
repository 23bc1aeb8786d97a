/-
  The window of hopeless lines as it lies in memory; what its methods least and leave do.
-/
import Derived.Test.YtkmeeblkckfepabGreatFf
namespace Go.Proofs.YtkmeeblkckfepabGreat
open Go.RowKit
set_option linter.unusedSimpArgs false
set_option linter.unusedVariables false

/-- A hopeless line's cells: where it ends, and what it costs. -/
def lnc (x : Nat × Int) : List Value := [.int .i64 (x.1 : Int), .int .i64 0, .int .i64 0, .int .i64 10000, .int .i64 3, .bool false, .int .i64 x.2]
def lcs (L : List (Nat × Int)) : List Value := L.flatMap lnc
theorem lcs_len (L : List (Nat × Int)) : (lcs L).length = L.length * 7 := by
  induction L with
  | nil => rfl
  | cons x L ih => simp only [lcs, List.flatMap_cons, List.length_append, List.length_cons] at *; rw [ih]; simp [lnc]; omega
theorem lcs_app (L M : List (Nat × Int)) : lcs (L ++ M) = lcs L ++ lcs M := by simp [lcs]
theorem lcs_one (L : List (Nat × Int)) (k r : Nat) (h : k < L.length) (hr : r < 7) : (lcs L)[k * 7 + r]? = (lnc L[k])[r]? := by
  induction L generalizing k with
  | nil => simp at h
  | cons x L ih =>
    simp only [lcs, List.flatMap_cons]
    cases k with
    | zero =>
      rw [List.getElem?_append_left (by simp [lnc]; omega)]
      simp
    | succ k =>
      rw [List.getElem?_append_right (by simp [lnc]; omega)]
      have := ih k (by simpa using h)
      simp only [lcs] at this
      rw [show (k + 1) * 7 + r - (lnc x).length = k * 7 + r by simp [lnc]; omega, this]
      rfl
/-- A window as it lies in memory, in blocks from B on. -/
def WinAt (B : Nat) (w : World) (v : Value) (L : List (Nat × Int)) : Prop := (v = .slice none 0 0 ∧ L = []) ∨ ∃ g o cap, v = .slice (some ⟨g, o, none⟩) L.length cap ∧ B ≤ g ∧ L.length ≤ cap ∧ cap ≤ maxLen ∧
    (∀ j, j < cap * 7 → (w.cell? ⟨g, o + j, none⟩).isSome = true ∧ w.frozen? ⟨g, o + j, none⟩ = false) ∧ ∀ j u, (lcs L)[j]? = some u → w.cell? ⟨g, o + j, none⟩ = some u
/-- The block in which a slice lies. -/
def wblk : Value → Option Nat
  | .slice (some a) _ _ => some a.block
  | _ => none
theorem WinAt.keep {B : Nat} {w w' : World} {v : Value} {L : List (Nat × Int)} (h : WinAt B w v L) (hk : ∀ g, wblk v = some g → g < w.heap.size → w'.heap[g]? = w.heap[g]?) : WinAt B w' v L := by
  rcases h with h | ⟨g, o, cap, rfl, h1, h2, h3, h4, h5⟩
  · exact .inl h
  · by_cases hg : g < w.heap.size
    · have e := hk g rfl hg
      refine .inr ⟨g, o, cap, rfl, h1, h2, h3, fun j hj => ?_, fun j u hj => ?_⟩
      · rw [World.cell?_of_block (w := w) (a := ⟨g, o + j, none⟩) e, World.frozen?_of_block (w := w) (a := ⟨g, o + j, none⟩) e]; exact h4 j hj
      · rw [World.cell?_of_block (w := w) (a := ⟨g, o + j, none⟩) e]; exact h5 j u hj
    · have hz : cap = 0 := by
        by_cases hc : cap = 0
        · exact hc
        · exfalso
          have := (h4 0 (by omega)).1
          obtain ⟨u, hu⟩ := Option.isSome_iff_exists.1 this
          have := World.block_lt_of_cell? w _ hu
          simp at this
          omega
      refine .inr ⟨g, o, cap, rfl, h1, h2, h3, fun j hj => by omega, fun j u hj => ?_⟩
      exfalso
      have : L = [] := List.eq_nil_of_length_eq_zero (by omega)
      subst this
      simp [lcs] at hj
theorem WinAt.below {B : Nat} {w w' : World} {v : Value} {L : List (Nat × Int)} (h : WinAt B w v L) (hb : Below w.heap.size w w') : WinAt B w' v L := h.keep (fun g _ hg => hb.block g hg)
theorem win_len {B : Nat} {w : World} {v : Value} {L : List (Nat × Int)} (h : WinAt B w v L) : ∃ ao cap, v = .slice ao L.length cap ∧ L.length ≤ cap ∧ cap ≤ maxLen ∧ (ao = none → L = []) := by
  rcases h with ⟨rfl, rfl⟩ | ⟨g, o, cap, rfl, h1, h2, h3, -⟩
  · exact ⟨none, 0, rfl, by simp, by unfold maxLen; omega, fun _ => rfl⟩
  · exact ⟨_, _, rfl, h2, h3, fun h => by cases h⟩
/-- The cells of a window's line. -/
theorem win_at {B : Nat} {w : World} {v : Value} {L : List (Nat × Int)} (h : WinAt B w v L) (k : Nat) (hk : k < L.length) : ∃ g o cap, v = .slice (some ⟨g, o, none⟩) L.length cap ∧ B ≤ g ∧ g < w.heap.size ∧ L.length ≤ cap ∧ cap ≤ maxLen ∧ w.cell? ⟨g, o + k * 7, none⟩ = some (.int .i64 (L[k].1 : Int)) ∧ w.cell? ⟨g, o + k * 7 + 1, none⟩ = some (.int .i64 0) ∧ w.cell? ⟨g, o + k * 7 + 2, none⟩ = some (.int .i64 0) ∧ w.cell? ⟨g, o + k * 7 + 3, none⟩ = some (.int .i64 10000) ∧ w.cell? ⟨g, o + k * 7 + 4, none⟩ = some (.int .i64 3) ∧ w.cell? ⟨g, o + k * 7 + 5, none⟩ = some (.bool false) ∧ w.cell? ⟨g, o + k * 7 + 6, none⟩ = some (.int .i64 L[k].2) := by
  rcases h with ⟨rfl, rfl⟩ | ⟨g, o, cap, rfl, h1, h2, h3, h4, h5⟩
  · simp at hk
  · have e := fun r hr => lcs_one L k r hk hr
    have c0 := h5 (k * 7 + 0) _ (e 0 (by omega))
    have c1 := h5 (k * 7 + 1) _ (e 1 (by omega))
    have c2 := h5 (k * 7 + 2) _ (e 2 (by omega))
    have c3 := h5 (k * 7 + 3) _ (e 3 (by omega))
    have c4 := h5 (k * 7 + 4) _ (e 4 (by omega))
    have c5 := h5 (k * 7 + 5) _ (e 5 (by omega))
    have c6 := h5 (k * 7 + 6) _ (e 6 (by omega))
    simp only [← Nat.add_assoc, Nat.add_zero] at c0 c1 c2 c3 c4 c5 c6
    have := World.block_lt_of_cell? w _ c0
    exact ⟨g, o, cap, rfl, h1, this, h2, h3, c0, c1, c2, c3, c4, c5, c6⟩
theorem slice_one (g o n cap : Nat) (hn : 0 < n) (hc : n ≤ cap) : ∃ o', (∀ w : World, (Instr.slice 66 (.slice (some ⟨g, o, none⟩) n cap) (some (.int .i64 1)) none none).run Tryz.prog w = .ok (.slice (some ⟨g, o', none⟩) (n - 1) (cap - 1)) w) ∧ (1 < cap → o' = o + 7) := by
  have h1 : (1 : Int) ≤ (n : Int) := by omega
  have h5 : (n : Int) ≤ (cap : Int) := by omega
  by_cases c : 1 < cap
  · refine ⟨o + 7, fun w => ?_, fun _ => rfl⟩
    go_simp
    intro h; omega
  · obtain rfl : cap = 1 := by omega
    obtain rfl : n = 1 := by omega
    refine ⟨o, fun w => ?_, fun h => absurd h c⟩
    go_simp
theorem slice_upto (ao : Option Addr) (n cap k : Nat) (hn : n ≤ cap) (hf : k ≤ n) (hz : ao = none → n = 0) (w : World) : (Instr.slice 66 (.slice ao n cap) none (some (.int .i64 (k : Int))) none).run Tryz.prog w = .ok (.slice ao k cap) w := by
  have h4 : (k : Int) ≤ (cap : Int) := by omega
  cases ao with
  | none =>
    have := hz rfl
    subst this
    obtain rfl : k = 0 := by omega
    go_simp
  | some ad => go_simp
theorem win_tail {B : Nat} {w : World} {g o cap o' : Nat} {x : Nat × Int} {L : List (Nat × Int)} (h : WinAt B w (.slice (some ⟨g, o, none⟩) (L.length + 1) cap) (x :: L)) (ho : 1 < cap → o' = o + 7) : WinAt B w (.slice (some ⟨g, o', none⟩) L.length (cap - 1)) L := by
  rcases h with h | ⟨g1, o1, cap1, e, h1, h2, h3, h4, h5⟩
  · cases h.1
  · injection e with e1 e2 e3
    injection e1 with e1
    injection e1 with e1 e4 e5
    subst e1; subst e4; subst e3
    simp only [List.length_cons] at h2
    refine .inr ⟨g, o', cap - 1, rfl, h1, by omega, by omega, fun j hj => ?_, fun j u hj => ?_⟩
    · have := ho (by omega)
      subst this
      rw [Nat.add_assoc]
      exact h4 (7 + j) (by omega)
    · have hj2 : j < (lcs L).length := (List.getElem?_eq_some_iff.1 hj).1
      rw [lcs_len] at hj2
      have := ho (by omega)
      subst this
      rw [Nat.add_assoc]
      refine h5 (7 + j) u ?_
      simp only [lcs, List.flatMap_cons]
      rw [List.getElem?_append_right (by simp [lnc])]
      rw [show 7 + j - (lnc x).length = j by simp [lnc]]
      exact hj
section
variable {w : World} {B sb off : Nat} {v : Value} {L : List (Nat × Int)}
set_option maxRecDepth 100000 in
set_option maxHeartbeats 2000000 in
theorem least_nil (c : w.cell? ⟨sb, off, none⟩ = some v) (h : WinAt B w v []) : Calls Tryz.prog 58 #[.pointer (some ⟨sb, off, none⟩)] w fun e w' => e = .returned (lnV 0 ⟨0, 0, 0, 0, false⟩ Awf) ∧ Below w.heap.size w w' := by
  obtain ⟨ao, cap, rfl, -, -, -⟩ := win_len h
  unfold lnV Awf
  have q1 : sb < w.heap.size := World.block_lt_of_cell? w _ c
  have q2 : sb ≠ w.heap.size := by omega
  clear h
  simp only [List.length_nil] at c
  go_enter Tryz.func58, Tryz.ntmps58
  go_wp2
  refine bodyPost_ret (v := .agg #[.int .i64 0, .int .i64 0, .int .i64 0, .int .i64 0, .int .i64 0, .bool false, .int .i64 1125899906842624]) (by simp [results, Tryz.results58, go_sem]) rfl ⟨rfl, by go_grown⟩
set_option maxRecDepth 100000 in
set_option maxHeartbeats 2000000 in
theorem least_cons (x : Nat × Int) (c : w.cell? ⟨sb, off, none⟩ = some v) (h : WinAt B w v (x :: L)) (hl : L.length ≤ 262144) : Calls Tryz.prog 58 #[.pointer (some ⟨sb, off, none⟩)] w fun e w' => e = .returned (lnV x.1 wF x.2) ∧ Below w.heap.size w w' := by
  obtain ⟨g, o, cap, rfl, -, hg, hc, -, c0, c1, c2, c3, c4, c5, c6⟩ := win_at h 0 (by simp)
  simp only [List.length_cons, Nat.zero_mul, Nat.add_zero, List.getElem_cons_zero] at c c0 c1 c2 c3 c4 c5 c6 hc
  unfold lnV wF
  simp only
  have q1 : sb < w.heap.size := World.block_lt_of_cell? w _ c
  have q2 : sb ≠ w.heap.size := by omega
  have q4 : g ≠ w.heap.size := by omega
  clear h
  obtain ⟨m, hm⟩ : ∃ m, L.length + 1 = m := ⟨_, rfl⟩
  have m0 : 0 < m := by omega
  have m1 : (0 : Int) < (m : Int) := by omega
  have m2 : ¬ m = 0 := by omega
  have m3 : m ≤ 262145 := by omega
  rw [hm] at c hc
  go_enter Tryz.func58, Tryz.ntmps58
  go_wp2
  refine bodyPost_ret (v := .agg #[.int .i64 (x.1 : Int), .int .i64 0, .int .i64 0, .int .i64 10000, .int .i64 3, .bool false, .int .i64 x.2]) (by simp [results, Tryz.results58, go_sem]) rfl ⟨rfl, by go_grown⟩
end
end Go.Proofs.YtkmeeblkckfepabGreat
