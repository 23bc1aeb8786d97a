/-
  What changed between two layouts can be done to the first: plain.
-/
import Derived.Test.YtoodhpgaikmalaaBy
namespace Go.Proofs.Ytoodhpgaikmalaa
set_option linter.unusedSimpArgs false
set_option linter.unusedVariables false

/-- What changed from page n on. -/
def dS (ps qs : List (List Key)) (n : Nat) : List Rg := (List.range' n (max ps.length qs.length - n)).flatMap (dat ps qs)
theorem dS_zero (ps qs : List (List Key)) : dif ps qs = dS ps qs 0 := by
  simp [dif, dU, dS, List.range_eq_range']
theorem dS_end (ps qs : List (List Key)) (n : Nat) (h : max ps.length qs.length ≤ n) : dS ps qs n = [] := by
  unfold dS
  rw [show max ps.length qs.length - n = 0 by omega]; rfl
theorem dS_step (ps qs : List (List Key)) (n : Nat) (h : n < max ps.length qs.length) : dS ps qs n = dat ps qs n ++ dS ps qs (n + 1) := by
  unfold dS
  obtain ⟨k, hk⟩ : ∃ k, max ps.length qs.length - n = k + 1 := ⟨max ps.length qs.length - n - 1, by omega⟩
  rw [hk, show max ps.length qs.length - (n + 1) = k by omega, List.range'_succ]
  rfl
theorem alg_gone (ps qs : List (List Key)) (k n : Nat) (hk : ps.length - n = k) (hn : n ≤ ps.length) (hq : qs.length ≤ n) : alg (ps.drop n) n (dS ps qs n) = true := by
  induction k generalizing n with
  | zero =>
    obtain rfl : n = ps.length := by omega
    rw [List.drop_length, dS_end _ _ _ (by omega)]
    rfl
  | succ k ih =>
    have hl : n < ps.length := by omega
    rw [dS_step _ _ _ (by omega), List.drop_eq_getElem_cons hl]
    have hx : ps[n]? = some ps[n] := List.getElem?_eq_getElem hl
    have hd : dat ps qs n = [⟨n, 3, 0, ps[n].length, []⟩] := by simp [dat, hx, List.getElem?_eq_none hq]
    rw [hd]
    simp only [List.cons_append, List.nil_append, alg, gon]
    have := ih (n + 1) (by omega) (by omega) (by omega)
    rw [show ((n : Int) + 1) = ((n + 1 : Nat) : Int) by omega, this]
    simp
theorem stg_dS (ps qs : List (List Key)) (k n : Nat) (last : Int) (hk : max ps.length qs.length - n = k) (hn : n ≤ max ps.length qs.length) (hq : n ≤ qs.length) (hl : last < n) (h0 : -1 ≤ last) : stg ps last (max ps.length n : Nat) (dS ps qs n) = some (min ps.length qs.length) := by
  induction k generalizing n last with
  | zero =>
    rw [dS_end _ _ _ (by omega)]
    show some _ = some _
    congr 1; omega
  | succ k ih =>
    rw [dS_step _ _ _ (by omega)]
    by_cases hp : n < ps.length
    · have hx : ps[n]? = some ps[n] := List.getElem?_eq_getElem hp
      by_cases hqn : n < qs.length
      · have hy : qs[n]? = some qs[n] := List.getElem?_eq_getElem hqn
        have hnx : max ps.length n = max ps.length (n + 1) := by omega
        by_cases c : ps[n] = qs[n]
        · have hd : dat ps qs n = [] := by simp [dat, hx, hy, reg, c]
          rw [hd, List.nil_append, hnx]
          exact ih (n + 1) last (by omega) (by omega) (by omega) (by omega) h0
        · have hd : dat ps qs n = [⟨n, 1, pre ps[n] qs[n], oldN ps[n] qs[n], nowL ps[n] qs[n]⟩] := by simp [dat, hx, hy, reg, c]
          rw [hd]
          have hb := bck_le ps[n] qs[n]
          simp only [List.cons_append, List.nil_append, stg]
          rw [if_neg (by omega), if_pos, hnx]
          · exact ih (n + 1) n (by omega) (by omega) (by omega) (by omega) (by omega)
          · have hgd : (ps.getD (n : Int).toNat []) = ps[n] := by rw [Int.toNat_natCast, List.getD_eq_getElem?_getD, hx]; rfl
            simp only [chg, hgd, Bool.and_eq_true, decide_eq_true_eq, beq_iff_eq]
            have ho : oldN ps[n] qs[n] = ps[n].length - bck ps[n] qs[n] - pre ps[n] qs[n] := rfl
            exact ⟨⟨⟨⟨trivial, by omega⟩, by omega⟩, by omega⟩, by omega⟩
      · have hqe : n = qs.length := by omega
        have hd : dat ps qs n = [⟨n, 3, 0, ps[n].length, []⟩] := by simp [dat, hx, List.getElem?_eq_none (show qs.length ≤ n by omega)]
        have ha := alg_gone ps qs (ps.length - n) n rfl (by omega) (by omega)
        rw [dS_step _ _ _ (by omega), hd] at ha
        rw [hd]
        simp only [List.cons_append, List.nil_append] at ha ⊢
        simp only [stg]
        rw [if_neg (by omega), if_neg (by simp [chg]), if_neg (by simp [add]), if_pos ⟨by omega, by rw [Int.toNat_natCast]; exact ha⟩]
        simp only [Int.toNat_natCast, Option.some.injEq]
        omega
    · have hqn : n < qs.length := by omega
      have hy : qs[n]? = some qs[n] := List.getElem?_eq_getElem hqn
      have hd : dat ps qs n = [⟨n, 2, 0, 0, qs[n]⟩] := by simp [dat, hy, List.getElem?_eq_none (show ps.length ≤ n by omega)]
      rw [hd]
      simp only [List.cons_append, List.nil_append, stg]
      rw [if_neg (by omega), if_neg (by simp [chg]), if_pos (by simp [add]; omega)]
      have := ih (n + 1) n (by omega) (by omega) (by omega) (by omega) (by omega)
      rw [show ((max ps.length (n + 1) : Nat) : Int) = ((max ps.length n : Nat) : Int) + 1 by omega] at this
      exact this
theorem stg_dif (ps qs : List (List Key)) : stg ps (-1) ps.length (dif ps qs) = some (min ps.length qs.length) := by
  rw [dS_zero]
  have := stg_dS ps qs (max ps.length qs.length) 0 (-1) (by omega) (by omega) (by omega) (by omega) (by omega)
  rw [show max ps.length 0 = ps.length by omega] at this
  exact this
theorem dif_len (ps qs : List (List Key)) : (dif ps qs).length ≤ max ps.length qs.length := dU_len _ _ _
theorem dif_self (ps : List (List Key)) : dif ps ps = [] := by
  have h : ∀ n, dU ps ps n = [] := by
    intro n
    induction n with
    | zero => simp [dU]
    | succ n ih =>
      rw [dU_succ, ih]
      unfold dat
      cases hx : ps[n]? with
      | none => rfl
      | some x => simp [reg]
  exact h _
end Go.Proofs.Ytoodhpgaikmalaa
