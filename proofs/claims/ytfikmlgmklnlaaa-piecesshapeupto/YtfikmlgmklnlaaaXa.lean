/-
  What Depth and the document's Digits answer, and that a balanced tree is no deeper than twice its pieces' binary digits.
-/
import Derived.Test.YtfikmlgmklnlaaaWz
namespace Go.Proofs.Ytfikmlgmklnlaaa
open Go.RowKit
set_option linter.unusedSimpArgs false
set_option linter.unusedVariables false

set_option maxRecDepth 100000 in
theorem depth_any {S : Nat → Nat → Prop} {w : World} {tb : Nat} {x : Option Addr} {A : Option (Nat × Nat × Nat)} {T : Tr} (h : TextAt S w tb x A T) :
    Calls Try.prog 26 #[.pointer (some ⟨tb, 0, none⟩)] w fun e w' => e = .returned (.int .i64 (T.dep : Nat)) ∧ Below w.heap.size w w' := by
  have c0 := h.root
  have ht := total_any S T x w h.tree
  have hf := fld3
  clear h
  go_enter Try.func26, Try.ntmps26
  go_wp2_with (go_at_call 31; refine ht.mono ?_; rintro e w1 ⟨rfl, hb1⟩; have HB := boxed hb1; clear hb1)
  go_ret
  exact ⟨rfl, HB.out⟩

/-- How many binary digits. -/
def dgt (n : Nat) : Nat := if h : n = 0 then 0 else dgt (n / 2) + 1
termination_by n
decreasing_by omega
theorem dgt_zero : dgt 0 = 0 := by unfold dgt; simp
theorem dgt_pos (n : Nat) (h : 0 < n) : dgt n = dgt (n / 2) + 1 := by rw [dgt]; rw [dif_neg (by omega)]
theorem dgt_lt : ∀ (b n : Nat), n ≤ b → n < 2 ^ dgt n
  | 0, n, h => by
    obtain rfl : n = 0 := by omega
    rw [dgt_zero]; decide
  | b + 1, n, h => by
    by_cases h0 : n = 0
    · subst h0; rw [dgt_zero]; decide
    · have h1 := dgt_lt b (n / 2) (by omega)
      rw [dgt_pos n (by omega), Nat.pow_succ]
      omega
theorem dgt_le : ∀ (b n : Nat), n ≤ b → dgt n ≤ n
  | 0, n, h => by
    obtain rfl : n = 0 := by omega
    rw [dgt_zero]; omega
  | b + 1, n, h => by
    by_cases h0 : n = 0
    · subst h0; rw [dgt_zero]; omega
    · have h1 := dgt_le b (n / 2) (by omega)
      rw [dgt_pos n (by omega)]
      omega
theorem flat_deep {T : Tr} (h : Avl T) : T.dep ≤ 2 * dgt T.pcs.length := by
  by_cases c : 2 * dgt T.pcs.length + 1 ≤ T.dep
  · have h1 := avl_cnt _ T h c
    have h2 := dgt_lt _ T.pcs.length (Nat.le_refl _)
    omega
  · omega

set_option maxRecDepth 100000 in
theorem digits_any (n : Nat) (w : World) (hn : n ≤ 1048576) :
    Calls Try.prog 27 #[.int .i64 (n : Nat)] w fun e w' => e = .returned (.int .i64 (dgt n : Nat)) ∧ w' = w := by
  have hd := dgt_le n n (Nat.le_refl _)
  go_enter Try.func27, Try.ntmps27
  go_wp2
  go_loop [0, 3] (fun a b => ∃ m j : Nat, m ≤ n ∧ a = .int .i64 (m : Nat) ∧ b = .int .i64 (j : Nat) ∧ Box (j + dgt m = dgt n)) (fun a _ => (intOf a).toNat)
  case atStart => exact ⟨n, 0, Nat.le_refl _, rfl, rfl, boxed (by omega)⟩
  case round =>
    obtain ⟨m, j, hm, rfl, rfl, HJ⟩ := hrel
    by_cases h0 : 0 < m
    · have HP := boxed (dgt_pos m h0)
      have hj : j ≤ 1048576 := by have := HJ.out; omega
      have t1 : decide ((0 : Int) < (m : Int)) = true := decide_eq_true (by omega)
      have t1' : decide (0 < m) = true := decide_eq_true h0
      go_wp2
      go_round
      case rel => exact ⟨m / 2, j + 1, by omega, by go_num, by go_num, boxed (by have := HJ.out; have := HP.out; omega)⟩
      case measure => simp [intOf]; omega
    · obtain rfl : m = 0 := by omega
      have HE : Box (j = dgt n) := boxed (by have := HJ.out; rw [dgt_zero] at this; omega)
      clear HJ
      go_wp2
      go_ret
      exact ⟨ret_int (by rw [HE.out]), rfl⟩
end Go.Proofs.Ytfikmlgmklnlaaa
