/-
  What the program's low and Append answer: the bytes that were handed in and behind them those of the rune, in new memory; these alone, if the number is no rune.
-/
import Derived.Test.YtflhefgmgdgffaaDoorUr
import Derived.Laws.CopyOwn
namespace Go.Proofs.YtflhefgmgdgffaaDoor
open Go.RowKit
set_option linter.unusedSimpArgs false
set_option linter.unusedVariables false

theorem info_byte : (Tryd.prog.info? 5).map (fun i => (i.zero, i.size, i.bytes)) = some (some (.int .u8 0), 1, 1) := by kernel_rfl
theorem size_byte : (Tryd.prog.info? 5).map (·.size) = some 1 := by kernel_rfl

/-- Bytes as they lie in memory. -/
def bvals (l : List Nat) : List Value := l.map fun (d : Nat) => Value.int .u8 (d : Int)
theorem bvals_len (l : List Nat) : (bvals l).length = l.length := by simp [bvals]
theorem bvals_get (l : List Nat) (j : Nat) (h : j < l.length) : (bvals l)[j]? = some (.int .u8 ((l.getD j 0 : Nat) : Int)) := by
  simp [bvals, h]
theorem bvals_app (l m : List Nat) : bvals l ++ bvals m = bvals (l ++ m) := by simp [bvals]
theorem bvals_one (l : List Nat) : ∀ v ∈ bvals l, v.oneCell' = true := by
  intro v hv
  simp only [bvals, List.mem_map] at hv
  obtain ⟨d, _, rfl⟩ := hv
  rfl

theorem add_block (x : Addr) (i : Nat) : (x.add i).block = x.block := by unfold Addr.add; split <;> rfl
/-- The address leads to the bytes: nothing is asked of it where there is none. -/
def Bg (w : World) (ao : Option Addr) (cap : Nat) (l : List Nat) : Prop :=
  (l.length ≤ cap ∧ cap ≤ maxLen) ∧ (l = [] ∨ ∃ x, ao = some x ∧ x.block < w.heap.size ∧ ∀ i, i < l.length → w.cell? (x.add i) = some (.int .u8 ((l.getD i 0 : Nat) : Int)))

theorem Bg.below {w w' : World} {ao : Option Addr} {cap : Nat} {l : List Nat} (h : Bg w ao cap l) (hb : Below w.heap.size w w') : Bg w' ao cap l := by
  obtain ⟨hc, h⟩ := h
  refine ⟨hc, ?_⟩
  rcases h with h | ⟨x, h1, h2, h3⟩
  · exact Or.inl h
  · refine Or.inr ⟨x, h1, Nat.lt_of_lt_of_le h2 hb.size, fun i hi => ?_⟩
    rw [hb.cell (p := x.add i) (by rw [add_block]; exact h2)]
    exact h3 i hi

theorem bg_of_owns {w : World} {base n : Nat} {v : Value} {l : List Nat} (h : w.ownsRow base 5 1 v n (bvals l)) : n = l.length ∧ ∃ ao cap, v = .slice ao l.length cap ∧ Bg w ao cap l := by
  have hl : l.length = n := by have := h.1; rw [bvals_len] at this; omega
  refine ⟨hl.symm, ?_⟩
  subst hl
  rcases h.2 with ⟨rfl, h0⟩ | ⟨g, cap, cur, rfl, hg, hh, hle, hm, hc, ht⟩
  · have : l = [] := List.eq_nil_of_length_eq_zero h0
    subst this
    exact ⟨none, 0, rfl, ⟨by simp, by unfold maxLen; omega⟩, Or.inl rfl⟩
  · refine ⟨some ⟨g, 0, none⟩, cap, rfl, ⟨hle, hm⟩, Or.inr ⟨⟨g, 0, none⟩, rfl, ?_, fun i hi => ?_⟩⟩
    · exact (h.lt g rfl).2
    · have := h.cellAt i (by omega)
      have hadd : (⟨g, 0, none⟩ : Addr).add i = ⟨g, i, none⟩ := by unfold Addr.add; split <;> simp_all
      rw [hadd, this, bvals_get l i hi]

/-- The bytes of a number: none, if it is no rune. -/
def byr (r : Int) : List Nat := if isR r = true then byts r.toNat else []

end Go.Proofs.YtflhefgmgdgffaaDoor
