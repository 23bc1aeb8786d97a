/-
  How many parts a page has, in plain words; where a page ends.
-/
import Derived.Test.YtjchioopfljjhaaHn
import Derived.Test.YtjchioopfljjhaaHf
namespace Go.Proofs.Ytjchioopfljjhaa
set_option linter.unusedSimpArgs false
set_option linter.unusedVariables false

theorem Dc.end_its (D : Dc) {J p : Nat} (h : D.Pgs J) (hp : p < J) : endL (D.its J) p D.n = D.it (p + 1) := by
  unfold endL
  rw [D.its_len]
  by_cases q : p + 1 < J
  · rw [if_pos q, D.its_get J _ q]
  · rw [if_neg q, show p + 1 = J by omega]
    exact h.2.symm
/-- How many times a page may end ahead of the m lines behind line a. -/
def Dc.cn (D : Dc) (a : Nat) : Nat → Nat
  | 0 => 0
  | m + 1 => if D.cut (a + m + 1) = true then D.cn a m + 1 else D.cn a m
theorem Dc.cn_le (D : Dc) (a m : Nat) : D.cn a m ≤ m := by
  induction m with
  | zero => exact Nat.le_refl _
  | succ m ih =>
    have e : D.cn a (m + 1) = if D.cut (a + m + 1) = true then D.cn a m + 1 else D.cn a m := rfl
    rw [e]
    split <;> omega
theorem Dc.cn_zero (D : Dc) (a m : Nat) (h : ∀ k, a < k → k ≤ a + m → D.cut k = false) : D.cn a m = 0 := by
  induction m with
  | zero => rfl
  | succ m ih =>
    have e : D.cn a (m + 1) = if D.cut (a + m + 1) = true then D.cn a m + 1 else D.cn a m := rfl
    rw [e, h (a + m + 1) (by omega) (by omega)]
    simp
    exact ih (fun k h1 h2 => h k h1 (by omega))
/-- A page that is too high is one part. -/
theorem Dc.cn_one (D : Dc) (a : Nat) (ha : a < D.n) (h : D.H < hi D.F a (D.nx a - a)) : D.cn a (D.nx a - a) = 1 := by
  obtain ⟨h1, h2, h3⟩ := D.nx_gt a ha
  have h4 := D.nxr_first a (D.n - a) h
  obtain ⟨m, hm⟩ : ∃ m, D.nx a - a = m + 1 := ⟨D.nx a - a - 1, by omega⟩
  rw [hm]
  have e : D.cn a (m + 1) = if D.cut (a + m + 1) = true then D.cn a m + 1 else D.cn a m := rfl
  rw [e, show a + m + 1 = D.nx a by omega, if_pos h3, D.cn_zero a m (fun k k1 k2 => h4 k k1 (by unfold Dc.nx at *; omega))]
/-- The next part wouldn't have fitted. -/
theorem Dc.nx_best (D : Dc) (a k : Nat) (h1 : D.nx a < k) (h2 : k ≤ D.n) (h3 : D.cut k = true) : D.H < hi D.F a (k - a) := by
  refine D.nxr_best a (D.n - a) k h1 ?_ h3
  have := D.nxr_le a (D.n - a)
  unfold Dc.nx at h1
  omega
end Go.Proofs.Ytjchioopfljjhaa
