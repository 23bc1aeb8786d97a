/-
  A part of the document's styles, and its runs.
-/
import Derived.Test.YtdchpiihjjjpfaaKc
namespace Go.Proofs.Ytdchpiihjjjpfaa
open Go.RowKit
set_option linter.unusedSimpArgs false
set_option linter.unusedVariables false

def bkO (off cap k : Nat) : Nat := if cap = k then off else off + k
theorem sl_mid (b off N cap k m : Nat) (h : k ≤ m) (hm : m ≤ N) (hc : N ≤ cap) (wx : World) : (Instr.slice 26 (.slice (some ⟨b, off, none⟩) N cap) (some (.int .i64 (k : Nat))) (some (.int .i64 (m : Nat))) none).run Try.prog wx = .ok (.slice (some ⟨b, bkO off cap k, none⟩) (m - k) (cap - k)) wx := by
  have h2 : (0 : Int) ≤ (k : Int) := by omega
  have h3 : (0 : Int) ≤ (m : Int) := by omega
  have h4 : ¬ cap < m := by omega
  have h5 : ¬ m < k := by omega
  simp [Instr.slice, Instr.sliceBounds, Instr.sliceBound, asIntOf, run_underlying Try.underlying26, go_sem, h2, h3, h4, h5, h]
  unfold bkO
  split <;> simp_all
  split <;> rfl
theorem rruns_mid (N : Nat → Prop) (w : World) (b off cp : Nat) (s : List Int) (h : RfAt N w b off cp s) (k m : Nat) (hk : k ≤ m) (hm : m ≤ s.length) :
    Calls Try.prog 15 #[.slice (some ⟨b, bkO off cp k, none⟩) (m - k) (cp - k)] w fun e w' => ∃ v, e = .returned v ∧ w'.ownsRow w.heap.size 58 2 v (enc (sub s k m)).length (rcs (enc (sub s k m))) ∧ Below w.heap.size w w' := by
  have hl := sub_len s k m hm
  have := rruns_any w b (bkO off cp k) (cp - k) (sub s k m) (fun i hi => by
    have hcap := h.cap
    have e : bkO off cp k = off + k := if_neg (by omega)
    have := h.cells (k + i) (by omega)
    rw [e, Nat.add_assoc, this]
    congr 2
    simp only [List.getD]
    rw [sub_get, if_pos (by omega)]) (by have := h.len; omega) (fun y hy => h.ok y (sub_mem s k m y hy))
  rw [hl] at this
  exact this
theorem below_box {w w1 : World} {o : Obj} (h : Below (w.heap.size + 1) (w.alloc o) w1) : Below w.heap.size w w1 :=
  ((Below.refl _ w).alloc (Nat.le_refl _) o).trans (h.mono (by omega))
theorem box_kept {w w1 : World} {x y : Value} {t : TypeId} (h : Below (w.heap.size + 1) (w.alloc (.cells #[x, y] t)) w1) : w1.cell? ⟨w.heap.size, 0, none⟩ = some x ∧ w1.cell? ⟨w.heap.size, 1, none⟩ = some y := by
  have hb : Below (w.alloc (.cells #[x, y] t)).heap.size (w.alloc (.cells #[x, y] t)) w1 := by rw [World.size_alloc]; exact h
  exact ⟨hold hb (by rw [cell_new _ _ _ _ _ rfl]; rfl), hold hb (by rw [cell_new _ _ _ _ _ rfl]; rfl)⟩
end Go.Proofs.Ytdchpiihjjjpfaa
