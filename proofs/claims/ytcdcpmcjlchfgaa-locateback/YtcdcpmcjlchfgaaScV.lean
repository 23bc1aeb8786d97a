/-
  What the document's Back and Mul answer: Back: the digits' number, at most Most; Mul: the product of the clamped numbers, clamped.
-/
import Derived.Test.YtcdcpmcjlchfgaaScU
namespace Go.Proofs.Ytcdcpmcjlchfgaa.Sc
open Go.RowKit
set_option linter.unusedSimpArgs false
set_option linter.unusedVariables false

theorem vl_drop_le (l : List Nat) (k : Nat) : vl (l.drop k) ≤ vl l := by
  by_cases h : k ≤ l.length
  · have h1 := vl_split l k h
    have h2 : 1 * vl (l.drop k) ≤ 1000 ^ k * vl (l.drop k) := Nat.mul_le_mul_right _ (Nat.pow_pos (by omega))
    omega
  · rw [List.drop_of_length_le (by omega)]; simp [vl]

theorem vl_drop (l : List Nat) (k : Nat) (h : k < l.length) : vl (l.drop k) = vl (l.drop (k + 1)) * 1000 + l.getD k 0 := by
  rw [List.drop_eq_getElem_cons h, getD_at _ _ h]
  simp only [vl]
  omega

/-- The product of the clamped numbers, clamped. -/
def ml (a b : Int) : Int := cl (cl a * cl b)

theorem ml_pos (x y : Int) (h : 0 ≤ x * y) : cl (x * y) = ((min (x.natAbs * y.natAbs) 1152921504606846976 : Nat) : Int) := by
  have e : x.natAbs * y.natAbs = (x * y).natAbs := (Int.natAbs_mul x y).symm
  rw [e]
  generalize x * y = z at *
  unfold cl
  split
  · omega
  · split <;> omega
theorem ml_neg (x y : Int) (h : x * y ≤ 0) : cl (x * y) = -((min (x.natAbs * y.natAbs) 1152921504606846976 : Nat) : Int) := by
  have e : x.natAbs * y.natAbs = (x * y).natAbs := (Int.natAbs_mul x y).symm
  rw [e]
  generalize x * y = z at *
  unfold cl
  split
  · omega
  · split <;> omega

theorem dig7 {r : List Nat} (hc : Cn r) (hv : vl r ≤ 1152921504606846976) : r.length ≤ 7 := hc.len 7 (by
  have : (1000 : Nat) ^ 7 = 1000000000000000000000 := by decide
  omega)

end Go.Proofs.Ytcdcpmcjlchfgaa.Sc
