/-
  How wide items are together, by their numbers.
-/
import Derived.Test.YteckbkcngkppmaaJw
import Derived.Test.YteckbkcngkppmaaJv
import Derived.Test.YteckbkcngkppmaaJi
namespace Go.Proofs.Yteckbkcngkppmaa
open Go.RowKit
set_option linter.unusedSimpArgs false
set_option linter.unusedVariables false

/-- How wide the first k items are together. -/
def wsf (I : Nat → Itm) : Nat → Int
  | 0 => 0
  | k + 1 => wsf I k + (if (I k).k = 3 then 0 else (I k).w)
theorem wsf_take (L : List Itm) (k : Nat) (hk : k ≤ L.length) : wsf (nth L) k = wsm (L.take k) := by
  induction k with
  | zero => rfl
  | succ k ih =>
    have e : L.take (k + 1) = L.take k ++ [nth L k] := by
      rw [List.take_add_one, List.getElem?_eq_getElem (by omega)]
      simp [nth, List.getElem?_eq_getElem (show k < L.length by omega)]
    rw [e, wsm_app, wsm_one, ← ih (by omega)]
    rfl
theorem wsf_all (L : List Itm) : wsf (nth L) L.length = wsm L := by rw [wsf_take L _ (Nat.le_refl _), List.take_length]
theorem wsf_in (I : Nat → Itm) (n : Nat) (h : ∀ i, i < n → 0 ≤ (I i).w ∧ (I i).w ≤ 68719476736) (k : Nat) (hk : k ≤ n) : 0 ≤ wsf I k ∧ wsf I k ≤ 68719476736 * (k : Int) := by
  induction k with
  | zero => simp [wsf]
  | succ k ih =>
    have h1 := ih (by omega)
    have h2 := h k (by omega)
    simp only [wsf]
    split <;> omega
theorem rsm_in {F : Nat → Sty} {n : Nat} (hg : ∀ i, i < n → flt (F i) = 0) (t : ByteArray) (Y : Nat → Int) (k : Nat) : 0 ≤ rsm F n t Y k ∧ rsm F n t Y k ≤ 1048576 * (k : Int) := by
  induction k with
  | zero => simp [rsm]
  | succ k ih =>
    have := (ofS_stb hg (Y (it t k))).wd (rn t k : Nat)
    simp only [rsm]
    omega
theorem rgt_w (I : Nat → Itm) (n : Nat) (h : rgt I n = true) (i : Nat) (hi : i < n) : 0 ≤ (I i).w ∧ (I i).w ≤ 68719476736 := by
  have h1 := ((rgt_iff I n).1 h).2.2.2 i hi
  exact msd_w ((okI_iff I i).1 h1).2.2.2.1
end Go.Proofs.Yteckbkcngkppmaa
