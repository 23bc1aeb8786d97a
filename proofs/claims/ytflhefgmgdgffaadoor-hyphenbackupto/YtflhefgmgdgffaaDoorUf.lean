/-
  What the program's Kind answers for every number, and Count and Lines of every right text: the runes are gone through by the model's own reading of a text, which is the document's where the text is right.
-/
import Derived.Test.YtflhefgmgdgffaaDoorUe
namespace Go.Proofs.YtflhefgmgdgffaaDoor
open Go.RowKit
set_option linter.unusedSimpArgs false
set_option linter.unusedVariables false

/-- The kind of a rune. -/
def kd (r : Int) : Int := if r = 32 then 1 else if r = 9 then 1 else if r = 160 then 2 else if r = 8239 then 2 else if r = 173 then 3 else if r = 8203 then 4 else if r = 8288 then 5 else if r = 65279 then 5 else if r = 45 then 6 else if r = 8208 then 6 else if r = 8232 then 7 else if r = 10 then 8 else 0
theorem kd_cases (r : Int) : (r = 32 ∨ r = 9 ∨ r = 160 ∨ r = 8239 ∨ r = 173 ∨ r = 8203 ∨ r = 8288 ∨ r = 65279 ∨ r = 45 ∨ r = 8208 ∨ r = 8232 ∨ r = 10) ∨ ((r == 32) = false ∧ (r == 9) = false ∧ (r == 160) = false ∧ (r == 8239) = false ∧ (r == 173) = false ∧ (r == 8203) = false ∧ (r == 8288) = false ∧ (r == 65279) = false ∧ (r == 45) = false ∧ (r == 8208) = false ∧ (r == 8232) = false ∧ (r == 10) = false) := by
  simp only [beq_eq_false_iff_ne, ne_eq]
  omega
theorem kd_8 (r : Int) : kd r = 8 ↔ r = 10 := by
  constructor
  · intro h
    by_cases c : r = 10
    · exact c
    · exfalso
      unfold kd at h
      repeat (split at h; · omega)
      omega
  · intro h; subst h; rfl

set_option maxRecDepth 100000 in
theorem kind_any (r : Int) (w : World) :
    Calls Tryd.prog 54 #[.int .i32 r] w fun e w' => e = .returned (.int .i64 (kd r)) ∧ w' = w := by
  rcases kd_cases r with (rfl | rfl | rfl | rfl | rfl | rfl | rfl | rfl | rfl | rfl | rfl | rfl) | ⟨h0, h1, h2, h3, h4, h5, h6, h7, h8, h9, h10, h11⟩
  all_goals
    go_enter Tryd.func54, Tryd.ntmps54
    go_wp2
    go_ret
    refine ⟨ret_int ?_, rfl⟩
    first
      | rfl
      | (simp only [beq_eq_false_iff_ne, ne_eq] at *; unfold kd; simp [*])

theorem get_at' (s : ByteArray) (k : Nat) (h : k < s.size) : (s.get! k).toNat = bt s k := by
  rw [bt_in s k h]
  congr 1
  simp [ByteArray.get!, getElem!_pos, h]
  rfl

/-- Where a rune begins, the model reads it. -/
theorem decode_dc (s : ByteArray) (a : Nat) (h : 0 < (dc s a).2) : Utf8.decode s a = dc s a := by
  have hin := dc_pos s a h
  have hle := (dc_le s a (by omega)).1
  have g0 := get_at' s (a + 0) hin
  have g1 := get_at' s (a + 1)
  have g2 := get_at' s (a + 2)
  have g3 := get_at' s (a + 3)
  rw [Nat.add_zero] at g0
  have D : dc s a = dec (bt s a) (bt s (a + 1)) (bt s (a + 2)) (bt s (a + 3)) := rfl
  rw [D] at h hle ⊢
  generalize bt s a = b0 at *
  generalize bt s (a + 1) = b1 at *
  generalize bt s (a + 2) = b2 at *
  generalize bt s (a + 3) = b3 at *
  simp only [Utf8.decode, Nat.add_zero, g0]
  rcases dec_cases b0 b1 b2 b3 with ⟨q, e⟩ | ⟨q, e⟩ | ⟨q, e⟩ | ⟨q, e⟩ | e
  · rw [e, if_pos q]
  · rw [e] at hle; simp only at hle
    rw [g1 (by omega)] at *
    rw [e, if_neg (by omega), if_pos (by simp; omega), if_pos (by omega)]
    rw [Prod.mk.injEq]; exact ⟨by omega, rfl⟩
  · rw [e] at hle; simp only at hle
    rw [g1 (by omega), g2 (by omega)]
    rw [e, if_neg (by omega), if_neg (by simp; omega), if_pos (by simp; omega), if_pos (by simp [Utf8.valid]; omega)]
    rw [Prod.mk.injEq]; exact ⟨by omega, rfl⟩
  · rw [e] at hle; simp only at hle
    rw [g1 (by omega), g2 (by omega), g3 (by omega)]
    rw [e, if_neg (by omega), if_neg (by simp; omega), if_neg (by simp; omega), if_pos (by simp; omega), if_pos (by simp [Utf8.valid]; omega)]
    rw [Prod.mk.injEq]; exact ⟨by omega, rfl⟩
  · rw [e] at h; exact absurd h (by simp)

/-- A right text: it is runes to its end. -/
def Right (s : ByteArray) (N : Nat) : Prop := Cnt s N ∧ it s N = s.size

theorem next_run (s : ByteArray) (N k : Nat) (w : World) (h : Cnt s N) (hk : k < N) (ty : TypeId) :
    (Instr.next (.pointer (some ⟨w.heap.size, 0, none⟩)) true ty).run Tryd.prog (w.iter s (it s k)) =
      .ok (.tuple #[.bool true, .int .i64 (it s k), .int .i32 (rn s k)]) (w.iter s (it s (k + 1))) := by
  have hp := h.1 k hk
  rw [run_next_any w s _ ty (dc_pos s _ hp), decode_dc s _ hp]
  rfl
theorem next_end (s : ByteArray) (N : Nat) (w : World) (h : Right s N) (ty : TypeId) :
    (Instr.next (.pointer (some ⟨w.heap.size, 0, none⟩)) true ty).run Tryd.prog (w.iter s (it s N)) = .ok (.tuple #[.bool false]) (w.iter s (it s N)) := by
  exact run_next_end w s _ ty (by rw [h.2]; omega)

theorem bel_iter (w : World) (s : ByteArray) (p : Nat) : Below w.heap.size w (w.iter s p) := (Below.refl _ _).alloc (Nat.le_refl _) _


/-- How many of the first runes are line ends. -/
def lns (s : ByteArray) : Nat → Nat
  | 0 => 0
  | k + 1 => lns s k + if rn s k = 10 then 1 else 0
theorem lns_le (s : ByteArray) : ∀ k, lns s k ≤ k
  | 0 => Nat.le_refl _
  | k + 1 => by have := lns_le s k; simp only [lns]; split <;> omega


end Go.Proofs.YtflhefgmgdgffaaDoor
