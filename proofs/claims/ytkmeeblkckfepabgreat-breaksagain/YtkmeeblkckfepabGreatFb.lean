/-
  Plain: a paragraph has a place at which a line may end. No walk.
-/
import Derived.Test.YtkmeeblkckfepabGreatEw
namespace Go.Proofs.YtkmeeblkckfepabGreat
open Go.RowKit
set_option linter.unusedSimpArgs false
set_option linter.unusedVariables false

theorem legl_last (I : Nat → Itm) (n k : Nat) (h : k < n) (hf : forc (I k) = true) : legl I n k = true := by
  simp [forc] at hf
  rw [legl_pen I n k h hf.1]
  simp
  omega
theorem lgs_pos (I : Nat → Itm) (n : Nat) (h : 0 < n) (hf : forc (I (n - 1)) = true) : 0 < (lgs I n n).length := by
  obtain ⟨m, rfl⟩ : ∃ m, n = m + 1 := ⟨n - 1, by omega⟩
  have e := legl_last I (m + 1) m (by omega) hf
  simp only [lgs]
  rw [if_pos e]
  simp
theorem own_form {w : World} {B m : Nat} {v : Value} {xs : List Value} (h : w.ownsRow B 3 1 v m xs) (hm : 0 < m) : ∃ g c, v = .slice (some ⟨g, 0, none⟩) m c ∧ B ≤ g ∧ g < w.heap.size := by
  rcases ownsRow_forms h with ⟨_, h2⟩ | ⟨g, c, rfl⟩
  · omega
  · exact ⟨g, c, rfl, (h.lt g rfl).1, (h.lt g rfl).2⟩
theorem kp_grown {S : Nat → Prop} {w w' : World} {lb : Nat} (h : w.grownBy w' (some lb)) (hS : ∀ b, S b → b ≠ lb) : Kp S S w w' := fun b i u hs hc => ⟨hs, by
  have hb := World.block_lt_of_cell? w _ hc
  rw [World.cell?_of_block (a := ⟨b, i, none⟩) (h.block b hb (fun e => hS b hs (by injection e)))]; exact hc⟩
theorem endN_at (L : List Nat) (k : Nat) (h : k < L.length) : endN L (k : Int) = (L.getD k 0 : Nat) := by
  unfold endN
  rw [if_pos (by omega), Int.toNat_natCast]
theorem below_grown {w w' : World} (h : Below w.heap.size w w') (row : Option Nat) : w.grownBy w' row := ⟨h.os, h.tape, h.output, h.size, fun k hk _ => h.block k hk⟩
end Go.Proofs.YtkmeeblkckfepabGreat
