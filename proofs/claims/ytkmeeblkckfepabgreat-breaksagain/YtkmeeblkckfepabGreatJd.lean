/-
  What the program's Legal and the document's answer.
-/
import Derived.Test.YtkmeeblkckfepabGreatJb
namespace Go.Proofs.YtkmeeblkckfepabGreat
open Go.RowKit
set_option linter.unusedSimpArgs false
set_option linter.unusedVariables false

theorem legl_out (I : Nat → Itm) (n : Nat) (k : Int) (h : k < 0 ∨ (n : Int) ≤ k) : legl I n k = false := by
  unfold legl; rw [if_neg (by omega)]
theorem legl_pen (I : Nat → Itm) (n k : Nat) (h : k < n) (hk : (I k).k = 3) : legl I n k = decide ((I k).c < 10000) := by
  unfold legl; rw [if_pos (by omega)]; simp [hk]
theorem legl_no (I : Nat → Itm) (n k : Nat) (h : k < n) (h3 : (I k).k ≠ 3) (h2 : (I k).k ≠ 2) : legl I n k = false := by
  unfold legl; rw [if_pos (by omega)]; simp [h3, h2]
theorem legl_glue (I : Nat → Itm) (n k : Nat) (h : k < n) (h2 : (I k).k = 2) : legl I n k = (!(I k).fill && decide (0 < k) && ((I (k - 1)).k == 1)) := by
  unfold legl; rw [if_pos (by omega)]; simp [h2]

set_option maxRecDepth 100000 in
set_option maxHeartbeats 2000000 in
theorem legal_any (S : Nat → Prop) (ao : Option Addr) (n cap : Nat) (I : Nat → Itm) (w : World) (h : ItsAt S w ao n I) (hn : n ≤ maxLen) (k : Int) :
    Calls Tryz.prog 40 #[.slice ao n cap, .int .i64 k] w fun e w' => e = .returned (.bool (legl I n k)) ∧ Below w.heap.size w w' := by
  unfold maxLen at hn
  by_cases h1 : k < 0
  · have HV := boxed (legl_out I n k (by omega))
    generalize legl I n k = V at *
    have t1 : decide (k < 0) = true := decide_eq_true h1
    clear h
    go_enter Tryz.func40, Tryz.ntmps40
    go_wp2
    go_ret
    exact ⟨ret_bool HV.out.symm, Below.refl _ _⟩
  have t1 : decide (k < 0) = false := decide_eq_false h1
  by_cases h2 : (n : Int) ≤ k
  · have HV := boxed (legl_out I n k (by omega))
    generalize legl I n k = V at *
    have t2 : decide ((n : Int) ≤ k) = true := decide_eq_true h2
    clear h
    go_enter Tryz.func40, Tryz.ntmps40
    go_wp2
    go_ret
    exact ⟨ret_bool HV.out.symm, Below.refl _ _⟩
  obtain ⟨k, rfl⟩ : ∃ j : Nat, k = (j : Int) := ⟨k.toNat, by omega⟩
  have hk : k < n := by omega
  have t2 : decide ((n : Int) ≤ (k : Int)) = false := decide_eq_false h2
  have t2' : decide (n ≤ k) = false := decide_eq_false (by omega)
  obtain ⟨b, off, e, -, c0, c1, c2, c3, c4, c5, c6, c7, c8⟩ := h k hk
  subst e
  have q2 : b < w.heap.size := World.block_lt_of_cell? w _ c0
  have q4 : b ≠ w.heap.size := by omega
  have H3 := boxed (legl_pen I n k hk)
  have H2 := boxed (legl_glue I n k hk)
  have H0 := boxed (legl_no I n k hk)
  have HP : Box (∀ m, k = m + 1 → w.cell? ⟨b, off + m * 9, none⟩ = some (.int .i64 (I m).k)) := boxed (fun m hm => by
    obtain ⟨b', off', e', -, d0, -⟩ := h m (by omega)
    injection e' with e'
    injection e' with e1 e2
    subst e1; subst e2
    exact d0)
  clear h h1 h2
  generalize legl I n k = V at *
  by_cases k3 : (I k).k = 3
  · have HV := boxed (H3.out k3)
    rw [k3] at c0
    clear H3 H2 H0 k3 HP
    generalize I k = x at *
    by_cases hc : x.c < 10000
    all_goals
      go_enter Tryz.func40, Tryz.ntmps40
      go_wp2
      go_ret
      exact ⟨ret_bool (by rw [HV.out]; simp [hc]), by go_grown⟩
  by_cases k2 : (I k).k = 2
  · have HV := boxed (H2.out k2)
    rw [k2] at c0
    clear H3 H2 H0 k3 k2
    generalize I k = x at *
    cases hf : x.fill
    · rw [hf] at c4 HV
      by_cases hz : k = 0
      · have t5 : decide ((0 : Int) < ((k : Nat) : Int)) = false := decide_eq_false (by omega)
        have t6 : decide (0 < k) = false := decide_eq_false (by omega)
        rw [t6] at HV
        clear hz HP
        go_enter Tryz.func40, Tryz.ntmps40
        go_wp2
        go_ret
        exact ⟨ret_bool (by rw [HV.out]; simp), by go_grown⟩
      · obtain ⟨m, rfl⟩ : ∃ m, k = m + 1 := ⟨k - 1, by omega⟩
        have d0 := HP.out m rfl
        rw [show m + 1 - 1 = m from rfl] at HV
        have t5 : decide ((0 : Int) < ((m + 1 : Nat) : Int)) = true := decide_eq_true (by omega)
        have t6 : decide ((0 : Int) < ((m : Nat) : Int) + 1) = true := decide_eq_true (by omega)
        have e6 : ((m + 1 : Nat) : Int) - 1 = (m : Nat) := by omega
        have e7 : ((m : Nat) : Int) + 1 - 1 = (m : Nat) := by omega
        cases hb : ((I m).k == 1)
        all_goals
          rw [hb] at HV
          go_enter Tryz.func40, Tryz.ntmps40
          go_wp2
          go_ret
          exact ⟨ret_bool (by rw [HV.out]; simp), by go_grown⟩
    · rw [hf] at c4 HV
      clear HP
      go_enter Tryz.func40, Tryz.ntmps40
      go_wp2
      go_ret
      exact ⟨ret_bool (by rw [HV.out]; simp), by go_grown⟩
  have HV := boxed (H0.out k3 k2)
  clear H3 H2 H0 HP
  generalize I k = x at *
  have t3 : (x.k == 3) = false := by simpa using k3
  have t4 : (x.k == 2) = false := by simpa using k2
  go_enter Tryz.func40, Tryz.ntmps40
  go_wp2
  go_ret
  exact ⟨ret_bool HV.out.symm, by go_grown⟩
end Go.Proofs.YtkmeeblkckfepabGreat
