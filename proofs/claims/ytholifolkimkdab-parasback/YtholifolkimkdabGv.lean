/-
  Plain words on what goes in and out again.
-/
import Derived.Test.YtholifolkimkdabGu
namespace Go.Proofs.Ytholifolkimkdab
open Go.RowKit
set_option linter.unusedSimpArgs false
set_option linter.unusedVariables false

theorem back_plain (l : List Bool) (a : Int) (m : List Bool) (h : insE l a m.length = 0) : outb (insL l a m).length a (a + m.length) = false ∧ delE (insL l a m) a (a + m.length) = 0 ∧ delL (insL l a m) a (a + m.length) = l ∧ 0 ≤ a ∧ a ≤ l.length := by
  have ho : outb l.length a a = false := by
    unfold insE at h
    by_cases c : outb l.length a a = true
    · rw [if_pos c] at h; omega
    · simpa using c
  obtain ⟨a1, -, a2⟩ := (outb_iff _ _ _).1 ho
  obtain ⟨k, rfl⟩ : ∃ k : Nat, a = k := ⟨a.toNat, by omega⟩
  have e : insL l k m = l.take k ++ m ++ l.drop k := by unfold insL; rw [if_pos h]; rfl
  have hlen : (insL l k m).length = l.length + m.length := by rw [e]; simp; omega
  have ho2 : outb (insL l k m).length k (k + m.length) = false := (outb_iff _ _ _).2 (by rw [hlen]; omega)
  refine ⟨ho2, ?_, ?_, a1, a2⟩
  · unfold delE; rw [ho2]; rfl
  · unfold delL
    rw [ho2, if_neg (by simp)]
    have e1 : ((k : Int)).toNat = k := by simp
    have e2 : ((k : Int) + (m.length : Int)).toNat = k + m.length := by omega
    rw [e1, e2, e]
    have hk : (l.take k).length = k := by simp; omega
    have e3 : (l.take k ++ m ++ l.drop k).take k = l.take k := by
      rw [List.append_assoc, List.take_append_of_le_length (by omega), List.take_of_length_le (by omega)]
    have e4 : (l.take k ++ m ++ l.drop k).drop (k + m.length) = l.drop k := by
      have hk2 : (l.take k ++ m).length = k + m.length := by rw [List.length_append, hk]
      rw [← hk2, List.drop_left]
    rw [e3, e4, List.take_append_drop]
end Go.Proofs.Ytholifolkimkdab
