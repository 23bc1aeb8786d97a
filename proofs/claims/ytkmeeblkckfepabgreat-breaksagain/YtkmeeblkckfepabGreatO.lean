/-
  What the document's Of answers for any number: the digits of the clamped number without its sign, in new memory, with no nought at the end.
-/
import Derived.Test.YtkmeeblkckfepabGreatB
import Derived.Test.YtkmeeblkckfepabGreatD
namespace Go.Proofs.YtkmeeblkckfepabGreat
open Go.RowKit
set_option linter.unusedSimpArgs false
set_option linter.unusedVariables false

theorem hid {p : Prop} (h : p) : Hid p := h
theorem info_int : (Tryz.prog.info? 3).map (fun i => (i.zero, i.size, i.bytes)) = some (some (.int .i64 0), 1, 8) := by kernel_rfl

/-- The digits as they lie in memory. -/
def vals (l : List Nat) : List Value := l.map fun (d : Nat) => Value.int .i64 (d : Int)
theorem vals_len (l : List Nat) : (vals l).length = l.length := by simp [vals]
theorem vals_get (l : List Nat) (j : Nat) (h : j < l.length) : (vals l)[j]? = some (.int .i64 ((l.getD j 0 : Nat) : Int)) := by
  simp [vals, h]
theorem vals_snoc (l : List Nat) (x : Nat) : vals l ++ [.int .i64 (x : Int)] = vals (l ++ [x]) := by simp [vals]

/-- The address leads to the digits: nothing is asked of it where there is none. -/
def Dg (w : World) (ao : Option Addr) (cap : Nat) (l : List Nat) : Prop :=
  (l.length ≤ cap ∧ cap ≤ maxLen) ∧ (l = [] ∨ ∃ b off, ao = some ⟨b, off, none⟩ ∧ b < w.heap.size ∧ ∀ i, i < l.length → w.cell? ⟨b, off + i, none⟩ = some (.int .i64 ((l.getD i 0 : Nat) : Int)))

theorem Dg.below {w w' : World} {ao : Option Addr} {cap : Nat} {l : List Nat} (h : Dg w ao cap l) (hb : Below w.heap.size w w') : Dg w' ao cap l := by
  obtain ⟨hc, h⟩ := h
  refine ⟨hc, ?_⟩
  rcases h with h | ⟨b, off, h1, h2, h3⟩
  · exact Or.inl h
  · refine Or.inr ⟨b, off, h1, Nat.lt_of_lt_of_le h2 hb.size, fun i hi => ?_⟩
    rw [hb.cell (p := ⟨b, off + i, none⟩) h2]
    exact h3 i hi

theorem dg_of_owns {w : World} {base n : Nat} {v : Value} {l : List Nat} (h : w.ownsRow base 3 1 v n (vals l)) : n = l.length ∧ ∃ ao cap, v = .slice ao l.length cap ∧ Dg w ao cap l := by
  have hl : l.length = n := by have := h.1; rw [vals_len] at this; omega
  refine ⟨hl.symm, ?_⟩
  subst hl
  rcases h.2 with ⟨rfl, h0⟩ | ⟨g, cap, cur, rfl, hg, hh, hle, hm, hc, ht⟩
  · have : l = [] := List.eq_nil_of_length_eq_zero h0
    subst this
    exact ⟨none, 0, rfl, ⟨by simp, by unfold maxLen; omega⟩, Or.inl rfl⟩
  · refine ⟨some ⟨g, 0, none⟩, cap, rfl, ⟨hle, hm⟩, Or.inr ⟨g, 0, rfl, ?_, fun i hi => ?_⟩⟩
    · exact (h.lt g rfl).2
    · have := h.cellAt i (by omega)
      rw [Nat.zero_add, this, vals_get l i hi]

theorem of_next (n0 m : Nat) (l : List Nat) (h : vl l + 1000 ^ l.length * m = n0) (hl : ∀ d ∈ l, d < 1000) (hm : 0 < m) :
    vl (l ++ [m % 1000]) + 1000 ^ (l ++ [m % 1000]).length * (m / 1000) = n0 ∧ (∀ d ∈ l ++ [m % 1000], d < 1000) ∧
    (m / 1000 = 0 → ∀ h : 0 < (l ++ [m % 1000]).length, (l ++ [m % 1000])[(l ++ [m % 1000]).length - 1] ≠ 0) := by
  refine ⟨?_, ?_, ?_⟩
  · rw [vl_snoc, List.length_append, List.length_singleton, Nat.pow_succ, Nat.mul_assoc, Nat.add_assoc, ← Nat.mul_add, Nat.mod_add_div]
    exact h
  · intro d hd
    rcases List.mem_append.1 hd with h1 | h1
    · exact hl d h1
    · rw [List.mem_singleton.1 h1]; exact Nat.mod_lt _ (by omega)
  · intro h0 _
    simp
    omega

theorem of_short (n0 m : Nat) (l : List Nat) (h : vl l + 1000 ^ l.length * m = n0) (hm : 0 < m) (hn : n0 ≤ 1152921504606846976) : l.length ≤ 6 := by
  by_cases c : l.length ≤ 6
  · exact c
  · exfalso
    have h1 : 1000 ^ 7 ≤ 1000 ^ l.length := Nat.pow_le_pow_right (by omega) (by omega)
    have h2 : 1000 ^ l.length * 1 ≤ 1000 ^ l.length * m := Nat.mul_le_mul_left _ hm
    have h3 : (1000 : Nat) ^ 7 = 1000000000000000000000 := by decide
    omega

end Go.Proofs.YtkmeeblkckfepabGreat
