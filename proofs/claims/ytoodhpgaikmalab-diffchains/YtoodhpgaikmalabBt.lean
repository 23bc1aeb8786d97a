/-
  How many lines regions put in and take out (diff.Count), and what that comes to for a diff.
-/
import Derived.Test.YtoodhpgaikmalabBr
import Derived.Test.YtoodhpgaikmalabBs
namespace Go.Proofs.Ytoodhpgaikmalab
open Go.RowKit
set_option linter.unusedSimpArgs false
set_option linter.unusedVariables false

def inn (rs : List Rg) : Nat := (rs.map (fun r => r.ls.length)).sum
def outt (rs : List Rg) : Int := (rs.map (fun r => r.od)).sum
def sumL (ps : List (List Key)) : Nat := (ps.map (fun x => x.length)).sum
theorem inn_app (a b : List Rg) : inn (a ++ b) = inn a + inn b := by simp [inn]
theorem outt_app (a b : List Rg) : outt (a ++ b) = outt a + outt b := by simp [outt]
theorem sumL_app (a b : List (List Key)) : sumL (a ++ b) = sumL a + sumL b := by simp [sumL]
theorem take_one {α : Type} (l : List α) (k : Nat) (x : α) (h : l[k]? = some x) : l.take (k + 1) = l.take k ++ [x] := by
  rw [List.take_add_one, h]; rfl
theorem inn_step (rs : List Rg) (k : Nat) (r : Rg) (h : rs[k]? = some r) : inn (rs.take (k + 1)) = inn (rs.take k) + r.ls.length := by
  rw [take_one _ _ _ h, inn_app]; simp [inn]
theorem outt_step (rs : List Rg) (k : Nat) (r : Rg) (h : rs[k]? = some r) : outt (rs.take (k + 1)) = outt (rs.take k) + r.od := by
  rw [take_one _ _ _ h, outt_app]; simp [outt]
theorem sumL_step (ps : List (List Key)) (k : Nat) (x : List Key) (h : ps[k]? = some x) : sumL (ps.take (k + 1)) = sumL (ps.take k) + x.length := by
  rw [take_one _ _ _ h, sumL_app]; simp [sumL]
theorem sumL_le (ps : List (List Key)) (M k : Nat) (h : ∀ (i : Nat) (x : List Key), ps[i]? = some x → x.length ≤ M) : sumL (ps.take k) ≤ k * M := by
  induction k with
  | zero => simp [sumL]
  | succ k ih =>
    cases hx : ps[k]? with
    | none => rw [List.take_of_length_le (by have := List.getElem?_eq_none_iff.1 hx; omega)]; rw [List.take_of_length_le (List.getElem?_eq_none_iff.1 hx)] at ih; rw [Nat.add_mul]; omega
    | some x => rw [sumL_step _ _ _ hx]; have := h k x hx; rw [Nat.add_mul]; omega
theorem dat_small (ps qs : List (List Key)) (M n : Nat) (hp : ∀ (i : Nat) (x : List Key), ps[i]? = some x → x.length ≤ M) (hq : ∀ (i : Nat) (x : List Key), qs[i]? = some x → x.length ≤ M) : ∀ r ∈ dat ps qs n, 0 ≤ r.od ∧ r.od ≤ M ∧ r.ls.length ≤ M := by
  intro r hr
  unfold dat at hr
  cases hx : ps[n]? with
  | none =>
    cases hy : qs[n]? with
    | none => simp [hx, hy] at hr
    | some y => have := hq n y hy; simp [hx, hy] at hr; subst hr; simp only; omega
  | some x =>
    have h1 := hp n x hx
    cases hy : qs[n]? with
    | none => simp [hx, hy] at hr; subst hr; simp only [List.length_nil]; omega
    | some y =>
      have h2 := hq n y hy
      simp only [hx, hy, reg] at hr
      split at hr
      · simp at hr
      · simp at hr
        subst hr
        have := now_len x y
        simp only [oldN]
        omega
theorem dif_small (ps qs : List (List Key)) (M : Nat) (hp : ∀ (i : Nat) (x : List Key), ps[i]? = some x → x.length ≤ M) (hq : ∀ (i : Nat) (x : List Key), qs[i]? = some x → x.length ≤ M) : ∀ r ∈ dif ps qs, 0 ≤ r.od ∧ r.od ≤ M ∧ r.ls.length ≤ M := by
  intro r hr
  simp only [dif, dU, List.mem_flatMap] at hr
  obtain ⟨n, -, h⟩ := hr
  exact dat_small ps qs M n hp hq r h
theorem dU_counts (ps qs : List (List Key)) (n : Nat) : ((inn (dU ps qs n) : Nat) : Int) - outt (dU ps qs n) = (sumL (qs.take n) : Nat) - (sumL (ps.take n) : Nat) := by
  induction n with
  | zero => simp [dU, inn, outt, sumL]
  | succ n ih =>
    rw [dU_succ, inn_app, outt_app]
    unfold dat
    cases hx : ps[n]? with
    | none =>
      have e1 : ps.take (n + 1) = ps.take n := by rw [List.take_of_length_le (by have := List.getElem?_eq_none_iff.1 hx; omega), List.take_of_length_le (List.getElem?_eq_none_iff.1 hx)]
      rw [e1]
      cases hy : qs[n]? with
      | none =>
        have e2 : qs.take (n + 1) = qs.take n := by rw [List.take_of_length_le (by have := List.getElem?_eq_none_iff.1 hy; omega), List.take_of_length_le (List.getElem?_eq_none_iff.1 hy)]
        rw [e2]
        simp [inn, outt] at ih ⊢
        omega
      | some y =>
        rw [sumL_step _ _ _ hy]
        simp [inn, outt] at ih ⊢
        omega
    | some x =>
      rw [sumL_step _ _ _ hx]
      cases hy : qs[n]? with
      | none =>
        have e2 : qs.take (n + 1) = qs.take n := by rw [List.take_of_length_le (by have := List.getElem?_eq_none_iff.1 hy; omega), List.take_of_length_le (List.getElem?_eq_none_iff.1 hy)]
        rw [e2]
        simp [inn, outt] at ih ⊢
        omega
      | some y =>
        rw [sumL_step _ _ _ hy]
        simp only [reg]
        split
        · next e => subst e; simp [inn, outt] at ih ⊢; omega
        · have h1 := now_len x y
          have h2 := bck_le x y
          simp [inn, outt, oldN] at ih ⊢
          omega
theorem dif_counts (ps qs : List (List Key)) : ((inn (dif ps qs) : Nat) : Int) - outt (dif ps qs) = (sumL qs : Nat) - (sumL ps : Nat) := by
  have := dU_counts ps qs (max ps.length qs.length)
  rw [List.take_of_length_le (by omega), List.take_of_length_le (by omega)] at this
  exact this
theorem outt_bound (rs : List Rg) (M k : Nat) (h : ∀ r ∈ rs, 0 ≤ r.od ∧ r.od ≤ M ∧ r.ls.length ≤ M) : 0 ≤ outt (rs.take k) ∧ outt (rs.take k) ≤ k * M ∧ inn (rs.take k) ≤ k * M := by
  induction k with
  | zero => simp [outt, inn]
  | succ k ih =>
    cases hx : rs[k]? with
    | none =>
      have e1 : rs.take (k + 1) = rs.take k := by rw [List.take_of_length_le (by have := List.getElem?_eq_none_iff.1 hx; omega), List.take_of_length_le (List.getElem?_eq_none_iff.1 hx)]
      rw [e1]
      have : ((k + 1 : Nat) : Int) * M = k * M + M := by simp [Int.add_mul]
      rw [this, Nat.add_mul]
      omega
    | some r =>
      obtain ⟨h1, h2, h3⟩ := h r (List.mem_of_getElem? hx)
      rw [outt_step _ _ _ hx, inn_step _ _ _ hx]
      have : ((k + 1 : Nat) : Int) * M = k * M + M := by simp [Int.add_mul]
      rw [this, Nat.add_mul]
      omega
end Go.Proofs.Ytoodhpgaikmalab
