/-
  When the document's Patch says no: plain.
-/
import Derived.Test.YtoodhpgaikmalaaAj
namespace Go.Proofs.Ytoodhpgaikmalaa
set_option linter.unusedSimpArgs false
set_option linter.unusedVariables false

theorem rst_last (ps Q : List (List Key)) (last keep : Int) (r : Rg) (h : r.pg ≤ last) : rst ps Q last keep r = none := by unfold rst; rw [if_pos (Or.inl h)]
theorem rst_keep (ps Q : List (List Key)) (last keep : Int) (r : Rg) (h : 0 ≤ keep) (h3 : r.kd ≠ 3) : rst ps Q last keep r = none := by unfold rst; rw [if_pos (Or.inr ⟨h, h3⟩)]
theorem rst_chg (ps Q : List (List Key)) (last keep : Int) (r : Rg) (h : r.kd = 1) (hc : chg ps r = false) : rst ps Q last keep r = none := by
  unfold rst
  by_cases c0 : r.pg ≤ last ∨ (0 ≤ keep ∧ r.kd ≠ 3)
  · rw [if_pos c0]
  · rw [if_neg c0, if_pos h, if_neg (by rw [hc]; simp)]
theorem rst_add (ps Q : List (List Key)) (last keep : Int) (r : Rg) (h : r.kd = 2) (hc : ¬ (r.pg = Q.length ∧ r.fr = 0 ∧ r.od = 0)) : rst ps Q last keep r = none := by
  unfold rst
  by_cases c0 : r.pg ≤ last ∨ (0 ≤ keep ∧ r.kd ≠ 3)
  · rw [if_pos c0]
  · rw [if_neg c0, if_neg (by omega), if_pos h, if_neg hc]
theorem rst_gon (ps Q : List (List Key)) (last keep : Int) (r : Rg) (h : r.kd = 3) (hc : ¬ (r.pg < ps.length ∧ r.fr = 0 ∧ r.od = ((ps.getD r.pg.toNat []).length : Int) ∧ r.ls.length = 0 ∧ ¬ (0 ≤ keep ∧ r.pg ≠ last + 1))) : rst ps Q last keep r = none := by
  unfold rst
  by_cases c0 : r.pg ≤ last ∨ (0 ≤ keep ∧ r.kd ≠ 3)
  · rw [if_pos c0]
  · rw [if_neg c0, if_neg (by omega), if_neg (by omega), if_pos h, if_neg hc]
theorem rst_kd (ps Q : List (List Key)) (last keep : Int) (r : Rg) (h1 : r.kd ≠ 1) (h2 : r.kd ≠ 2) (h3 : r.kd ≠ 3) : rst ps Q last keep r = none := by
  unfold rst
  by_cases c0 : r.pg ≤ last ∨ (0 ≤ keep ∧ r.kd ≠ 3)
  · rw [if_pos c0]
  · rw [if_neg c0, if_neg h1, if_neg h2, if_neg h3]
/-- Whether a change fits, for a page that is there. -/
theorem chg_at (ps : List (List Key)) (p : Nat) (x : List Key) (fr od : Int) (ls : List Key) (hx : ps[p]? = some x) : chg ps ⟨(p : Nat), 1, fr, od, ls⟩ = (decide (0 ≤ fr) && decide (0 ≤ od) && decide (od ≤ (x.length : Int) - fr)) := by
  have hp := (List.getElem?_eq_some_iff.1 hx).1
  have hgd : ps.getD p [] = x := by rw [List.getD_eq_getElem?_getD, hx]; rfl
  have h2 : decide (((p : Nat) : Int) < (ps.length : Int)) = true := decide_eq_true (by omega)
  unfold chg
  simp only [Int.toNat_natCast, hgd, h2]
  simp
theorem chg_far (ps : List (List Key)) (pg fr od : Int) (ls : List Key) (h : ¬ pg < ps.length) : chg ps ⟨pg, 1, fr, od, ls⟩ = false := by
  unfold chg
  simp only [decide_eq_false h]
  simp
end Go.Proofs.Ytoodhpgaikmalaa
