/-
  What End of both sides, the program's linesOf and Heights answer.
-/
import Derived.Test.YtjchioopfljjhabHg
namespace Go.Proofs.Ytjchioopfljjhab
open Go.RowKit
set_option linter.unusedSimpArgs false
set_option linter.unusedVariables false

/-- With what line the page behind page p begins. -/
def endL (L : List Nat) (p n : Nat) : Nat := if p + 1 < L.length then L.getD (p + 1) 0 else n
set_option maxRecDepth 100000 in
theorem pend_any (S : Nat → Prop) (ao : Option Addr) (c : Nat) (L : List Nat) (p n : Nat) (w : World) (h : NAt S w ao L) (hp : p < L.length) (hl : L.length ≤ 1000000) :
    Calls Try.prog 18 #[.slice ao L.length c, .int .i64 (p : Nat), .int .i64 (n : Nat)] w fun e w' => e = .returned (.int .i64 (endL L p n : Nat)) ∧ w' = w := by
  unfold endL
  obtain ⟨b, rfl, -, -⟩ := h.form (by omega)
  by_cases q : p + 1 < L.length
  · rw [if_pos q]
    have c0 := h.get (p + 1) q
    generalize L.getD (p + 1) 0 = x at *
    generalize L.length = m at *
    have t1 : decide ((p : Int) < 0) = false := decide_eq_false (by omega)
    have t2 : decide ((m : Int) - 1 ≤ (p : Int)) = false := decide_eq_false (by omega)
    have b1 : (p : Int) + 1 < (m : Int) := by omega
    clear h
    go_enter Try.func18, Try.ntmps18
    go_wp2_with fail
    go_ret
    exact ⟨rfl, rfl⟩
  · rw [if_neg q]
    generalize L.length = m at *
    have t1 : decide ((p : Int) < 0) = false := decide_eq_false (by omega)
    have t2 : decide ((m : Int) - 1 ≤ (p : Int)) = true := decide_eq_true (by omega)
    clear h q
    go_enter Try.func18, Try.ntmps18
    go_wp2_with fail
    go_ret
    exact ⟨rfl, rfl⟩
set_option maxRecDepth 100000 in
theorem refend_any (S : Nat → Prop) (ao : Option Addr) (c : Nat) (L : List Nat) (p n : Nat) (w : World) (h : NAt S w ao L) (hp : p < L.length) (hl : L.length ≤ 1000000) :
    Calls Try.prog 6 #[.slice ao L.length c, .int .i64 (p : Nat), .int .i64 (n : Nat)] w fun e w' => e = .returned (.int .i64 (endL L p n : Nat)) ∧ w' = w := by
  unfold endL
  obtain ⟨b, rfl, -, -⟩ := h.form (by omega)
  by_cases q : p + 1 < L.length
  · rw [if_pos q]
    have c0 := h.get (p + 1) q
    generalize L.getD (p + 1) 0 = x at *
    generalize L.length = m at *
    have t2 : decide ((p : Int) < (m : Int) - 1) = true := decide_eq_true (by omega)
    have b1 : (p : Int) + 1 < (m : Int) := by omega
    clear h
    go_enter Try.func6, Try.ntmps6
    go_wp2_with fail
    go_ret
    exact ⟨rfl, rfl⟩
  · rw [if_neg q]
    generalize L.length = m at *
    have t2 : decide ((p : Int) < (m : Int) - 1) = false := decide_eq_false (by omega)
    clear h q
    go_enter Try.func6, Try.ntmps6
    go_wp2_with fail
    go_ret
    exact ⟨rfl, rfl⟩
end Go.Proofs.Ytjchioopfljjhab
