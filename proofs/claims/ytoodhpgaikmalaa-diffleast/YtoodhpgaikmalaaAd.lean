/-
  Where a page's region stands among those of a diff: plain.
-/
import Derived.Test.YtoodhpgaikmalaaAc
namespace Go.Proofs.Ytoodhpgaikmalaa
set_option linter.unusedSimpArgs false
set_option linter.unusedVariables false

theorem dif_split (ps qs : List (List Key)) (i : Nat) (h : i ≤ max ps.length qs.length) : dif ps qs = dU ps qs i ++ dS ps qs i := by
  induction i with
  | zero => rw [dS_zero]; simp [dU]
  | succ i ih =>
    rw [ih (by omega), dS_step ps qs i (by omega), dU_succ, List.append_assoc]
theorem dat_pg (ps qs : List (List Key)) (n : Nat) : ∀ r ∈ dat ps qs n, r.pg = n := by
  intro r hr
  unfold dat at hr
  cases hx : ps[n]? with
  | none =>
    cases hy : qs[n]? with
    | none => simp [hx, hy] at hr
    | some y => simp [hx, hy] at hr; subst hr; rfl
  | some x =>
    cases hy : qs[n]? with
    | none => simp [hx, hy] at hr; subst hr; rfl
    | some y =>
      simp only [hx, hy, reg] at hr
      split at hr
      · simp at hr
      · simp at hr; subst hr; rfl
theorem dS_pg (ps qs : List (List Key)) (n : Nat) : ∀ r ∈ dS ps qs n, (n : Int) ≤ r.pg := by
  intro r hr
  simp only [dS, List.mem_flatMap, List.mem_range'_1] at hr
  obtain ⟨j, hj, h⟩ := hr
  rw [dat_pg ps qs j r h]
  omega
theorem at_reg (ps qs : List (List Key)) (i : Nat) (h : i < max ps.length qs.length) (r : Rg) (hd : dat ps qs i = [r]) : (dif ps qs)[(dU ps qs i).length]? = some r := by
  rw [dif_split ps qs i (by omega), List.getElem?_append_right (by omega), dS_step ps qs i h, hd]
  simp
theorem no_reg (ps qs : List (List Key)) (i : Nat) (h : i < max ps.length qs.length) (hd : dat ps qs i = []) (r : Rg) (hr : (dif ps qs)[(dU ps qs i).length]? = some r) : r.pg ≠ i := by
  rw [dif_split ps qs i (by omega), List.getElem?_append_right (by omega), dS_step ps qs i h, hd, List.nil_append] at hr
  have := dS_pg ps qs (i + 1) r (List.mem_of_getElem? hr)
  omega
theorem dat_same (ps qs : List (List Key)) (n : Nat) (x y : List Key) (h1 : ps[n]? = some x) (h2 : qs[n]? = some y) (h : x = y) : dat ps qs n = [] := by simp [dat, h1, h2, reg, h]
theorem dat_diff (ps qs : List (List Key)) (n : Nat) (x y : List Key) (h1 : ps[n]? = some x) (h2 : qs[n]? = some y) (h : x ≠ y) : dat ps qs n = [⟨n, 1, pre x y, oldN x y, nowL x y⟩] := by simp [dat, h1, h2, reg, h]
theorem dat_added (ps qs : List (List Key)) (n : Nat) (y : List Key) (h1 : ps.length ≤ n) (h2 : qs[n]? = some y) : dat ps qs n = [⟨n, 2, 0, 0, y⟩] := by simp [dat, List.getElem?_eq_none h1, h2]
theorem dat_gone (ps qs : List (List Key)) (n : Nat) (x : List Key) (h1 : ps[n]? = some x) (h2 : qs.length ≤ n) : dat ps qs n = [⟨n, 3, 0, x.length, []⟩] := by simp [dat, List.getElem?_eq_none h2, h1]
/-- How far the search among the regions is at page i. -/
def kAt (ps qs : List (List Key)) (i : Nat) : Nat := (dU ps qs i).length
theorem kAt_no (ps qs : List (List Key)) (i : Nat) (h : dat ps qs i = []) : kAt ps qs (i + 1) = kAt ps qs i := by unfold kAt; rw [dU_succ, h]; simp
theorem kAt_one (ps qs : List (List Key)) (i : Nat) (r : Rg) (h : dat ps qs i = [r]) : kAt ps qs (i + 1) = kAt ps qs i + 1 := by unfold kAt; rw [dU_succ, h]; simp
theorem kAt_le (ps qs : List (List Key)) (i : Nat) : kAt ps qs i ≤ i := dU_len ps qs i
theorem last_get {α : Type} (l : List α) (h : 0 < l.length) : ∃ x, l[l.length - 1]? = some x := ⟨_, List.getElem?_eq_getElem (by omega)⟩
theorem least_facts (P O X Y L : Nat) (hPO : P + O ≤ X) (hXO : X - O = Y - L) (hLY : L ≤ Y) (hX2 : X ≤ 40) (hY2 : Y ≤ 40) : ∃ PO XO : Nat, P + O = PO ∧ decide ((P : Int) < 0) = false ∧ decide ((O : Int) < 0) = false ∧ IntKind.i64.wrap ((P : Int) + (O : Int)) = (PO : Int) ∧ decide ((X : Int) < (PO : Int)) = false ∧ IntKind.i64.wrap ((X : Int) - (O : Int)) = (XO : Int) ∧ IntKind.i64.wrap ((Y : Int) - (L : Int)) = (XO : Int) ∧ ((XO : Int) != (XO : Int)) = false ∧ decide ((X : Int) < (P : Int) + (O : Int)) = false ∧ (((X : Int) - (O : Int)) != ((Y : Int) - (L : Int))) = false ∧ decide (X < PO) = false := by
  refine ⟨P + O, X - O, rfl, decide_eq_false (by omega), decide_eq_false (by omega), by rw [IntKind.wrap_i64]; omega, decide_eq_false (by omega), by rw [IntKind.wrap_i64]; omega, by rw [IntKind.wrap_i64]; omega, by simp, decide_eq_false (by omega), ?_, decide_eq_false (by omega)⟩
  rw [bne_eq_false_iff_eq]; omega
theorem least_ends (P O X L PO : Nat) (hq : P + O = PO) (hPO : P + O ≤ X) (hO : 0 < O) (hL : 0 < L) (hX : X ≤ 40) (hL2 : L ≤ 40) : ∃ ja jl : Nat, P + O - 1 = ja ∧ L - 1 = jl ∧ IntKind.i64.wrap ((PO : Int) - 1) = (ja : Int) ∧ IntKind.i64.wrap ((L : Int) - 1) = (jl : Int) ∧ (P : Int) < (X : Int) ∧ (ja : Int) < (X : Int) ∧ (jl : Int) < (L : Int) ∧ (0 : Int) < (L : Int) ∧ P < X ∧ ja < X ∧ jl < L ∧ decide ((0 : Int) < (O : Int)) = true ∧ decide ((0 : Int) < (L : Int)) = true := by
  refine ⟨P + O - 1, L - 1, rfl, rfl, by rw [IntKind.wrap_i64]; omega, by rw [IntKind.wrap_i64]; omega, by omega, by omega, by omega, by omega, by omega, by omega, by omega, decide_eq_true (by omega), decide_eq_true (by omega)⟩
end Go.Proofs.Ytoodhpgaikmalaa
