/-
  Plain: for a later end neither of a line's bounds falls; what can't be narrow enough doesn't fit, and what can't be wide enough is as bad as may be. No walk.
-/
import Derived.Test.YtkmeeblkckfepabGreatEv
namespace Go.Proofs.YtkmeeblkckfepabGreat
set_option linter.unusedSimpArgs false
set_option linter.unusedVariables false

/-- For a later end. -/
theorem upt_mono (I : Nat → Itm) (n : Nat) (hok : ∀ i, i < n → okI I i = true) (a : Int) (k : Nat) (hk : k + 1 < n) :
    (upt I n a (k : Int)).w - (upt I n a (k : Int)).sh ≤ (upt I n a ((k + 1 : Nat) : Int)).w - (upt I n a ((k + 1 : Nat) : Int)).sh ∧
    (upt I n a (k : Int)).w + 5 * (upt I n a (k : Int)).st ≤ (upt I n a ((k + 1 : Nat) : Int)).w + 5 * (upt I n a ((k + 1 : Nat) : Int)).st ∧
    (upt I n a (k : Int)).f ≤ (upt I n a ((k + 1 : Nat) : Int)).f := by
  have hs := sta_le I n a
  unfold upt
  rw [Int.toNat_natCast, Int.toNat_natCast]
  by_cases c1 : sta I n a < k
  · rw [if_pos (by omega), if_pos (by omega)]
    have h1 := pre_mono I n hok k (k + 1) (by omega) (by omega)
    simp only [Sm.sub]
    omega
  · rw [if_neg (by omega)]
    by_cases c2 : sta I n a < k + 1
    · rw [if_pos (by omega)]
      have h1 := pre_mono I n hok (sta I n a) (k + 1) (by omega) (by omega)
      simp only [Sm.sub, Sm.zero]
      omega
    · rw [if_neg (by omega)]
      simp [Sm.zero]
theorem itm_add (I : Nat → Itm) (n : Nat) (hok : ∀ i, i < n → okI I i = true) (b : Nat) (hb : b < n) : 0 ≤ addd (itm I n (b : Int)) ∧ addd (itm I n (b : Int)) ≤ wst I n := by
  have e : itm I n (b : Int) = I b := by unfold itm; rw [if_pos (by omega), Int.toNat_natCast]
  rw [e]
  have h1 := okI_ms I b (hok b hb)
  have h2 := (wst_le I n hok n (Nat.le_refl _)).2 b hb
  refine ⟨?_, h2⟩
  unfold addd
  split <;> omega
/-- What can't be narrow enough doesn't fit. -/
theorem fit_over (I : Nat → Itm) (n : Nat) (hn : n ≤ 262144) (hok : ∀ i, i < n → okI I i = true) (a : Int) (b : Nat) (hb : b < n) (width : Int)
    (h : width < (upt I n a (b : Int)).w - (upt I n a (b : Int)).sh) : (setF (lin I n a (b : Int)) width).over = true := by
  have h1 := upt_le I n hn hok a (b : Int)
  have h2 := itm_add I n hok b hb
  unfold setF lin
  simp only
  rw [if_neg (by omega), if_neg (by omega)]
  unfold shF
  rw [if_pos (by omega)]
  rfl
/-- What can't be wide enough is as bad as may be. -/
theorem fit_bad (I : Nat → Itm) (n : Nat) (hn : n ≤ 262144) (hok : ∀ i, i < n → okI I i = true) (a : Int) (b : Nat) (hb : b < n) (width : Int) (hw : -1099511627776 ≤ width ∧ width ≤ 1099511627776)
    (h : (upt I n a (b : Int)).w + 5 * (upt I n a (b : Int)).st + wst I n < width) (hf : ¬ 0 < (upt I n a (b : Int)).f) : (setF (lin I n a (b : Int)) width).bad = 10000 := by
  have h1 := upt_le I n hn hok a (b : Int)
  have h2 := itm_add I n hok b hb
  unfold setF lin
  simp only
  rw [if_neg (by omega), if_pos (by omega)]
  unfold stF
  split
  · rfl
  · rename_i hz
    simp only
    generalize (upt I n a (b : Int)).st = s at *
    generalize hT : width - ((upt I n a (b : Int)).w + addd (itm I n (b : Int))) = t at *
    have ct : cl t = t := cl_same t (by omega) (by omega)
    have cs : cl s = s := cl_same s (by omega) (by omega)
    unfold bd
    rw [ct, cs, if_neg (by omega), if_neg (by omega), bw_great t.toNat s.toNat (by omega) (by omega)]
    rfl
end Go.Proofs.YtkmeeblkckfepabGreat
