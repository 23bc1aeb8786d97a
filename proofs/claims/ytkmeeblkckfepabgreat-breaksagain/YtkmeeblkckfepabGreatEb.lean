/-
  Lines in plain words: what items come to together, where a line behind a break begins, how a line's glue is set. No program in it.
-/
import Derived.Test.YtkmeeblkckfepabGreatJa
namespace Go.Proofs.YtkmeeblkckfepabGreat
open Go.RowKit
set_option linter.unusedSimpArgs false
set_option linter.unusedVariables false

structure Sm where
  w : Int
  st : Int
  sh : Int
  f : Int
def Sm.zero : Sm := ⟨0, 0, 0, 0⟩
def Sm.cells (s : Sm) : List Value := [.int .i64 s.w, .int .i64 s.st, .int .i64 s.sh, .int .i64 s.f]
def Sm.val (s : Sm) : Value := .agg #[.int .i64 s.w, .int .i64 s.st, .int .i64 s.sh, .int .i64 s.f]
def Sm.like (a b : Sm) : Bool := (a.w == b.w) && (a.st == b.st) && (a.sh == b.sh) && (a.f == b.f)
theorem Sm.like_self (a : Sm) : a.like a = true := by simp [Sm.like]
/-- A sum and one more item. -/
def acc (s : Sm) (x : Itm) : Sm := ⟨if x.k = 3 then s.w else s.w + x.w, s.st + x.st, s.sh + x.sh, if x.fill = true then s.f + 1 else s.f⟩
/-- What the first k items come to. -/
def pre (I : Nat → Itm) : Nat → Sm
  | 0 => Sm.zero
  | k + 1 => acc (pre I k) (I k)
def Sm.sub (a b : Sm) : Sm := ⟨a.w - b.w, a.st - b.st, a.sh - b.sh, a.f - b.f⟩
/-- How much wider a line is for ending at an item. -/
def addd (x : Itm) : Int := if x.k = 3 then x.w else 0
/-- The most that any of the first k adds. -/
def wst (I : Nat → Itm) : Nat → Int
  | 0 => 0
  | k + 1 => max (wst I k) (addd (I k))
/-- May a line begin with an item? -/
def beg (x : Itm) : Bool := (x.k == 1) || forc x || ((x.k == 2) && x.fill)
/-- The first of m items from item j on with which a line may begin; else the one behind them. -/
def nb (I : Nat → Itm) : Nat → Nat → Nat
  | 0, j => j
  | m + 1, j => if beg (I j) = true then j else nb I m (j + 1)
/-- The first item behind item k with which a line may begin. -/
def nxt (I : Nat → Itm) (n k : Nat) : Nat := nb I (n - (k + 1)) (k + 1)
/-- The first item of the line behind a break. -/
def sta (I : Nat → Itm) (n : Nat) (a : Int) : Nat := if a < 0 then 0 else if a < (n : Int) then nxt I n a.toNat else n
/-- What the items of a line come to, without what the break adds. -/
def upt (I : Nat → Itm) (n : Nat) (a b : Int) : Sm := if 0 ≤ b ∧ b < (n : Int) ∧ (sta I n a : Int) < b then (pre I b.toNat).sub (pre I (sta I n a)) else Sm.zero
def itm (I : Nat → Itm) (n : Nat) (k : Int) : Itm := if 0 ≤ k ∧ k < (n : Int) then I k.toNat else Itm.zero
def lin (I : Nat → Itm) (n : Nat) (a b : Int) : Sm := ⟨(upt I n a b).w + addd (itm I n b), (upt I n a b).st, (upt I n a b).sh, (upt I n a b).f⟩
/-- The numbers of those of the first k items at which a line may end. -/
def lgs (I : Nat → Itm) (n : Nat) : Nat → List Nat
  | 0 => []
  | k + 1 => if legl I n k = true then lgs I n k ++ [k] else lgs I n k
theorem lgs_len (I : Nat → Itm) (n k : Nat) : (lgs I n k).length ≤ k := by
  induction k with
  | zero => simp [lgs]
  | succ k ih => simp only [lgs]; split <;> (try simp only [List.length_append, List.length_cons, List.length_nil]) <;> omega
theorem nb_le (I : Nat → Itm) (m j : Nat) : j ≤ nb I m j ∧ nb I m j ≤ j + m := by
  induction m generalizing j with
  | zero => simp [nb]
  | succ m ih =>
    simp only [nb]
    have := ih (j + 1)
    split <;> omega
theorem nxt_le (I : Nat → Itm) (n k : Nat) (h : k < n) : k < nxt I n k ∧ nxt I n k ≤ n := by
  unfold nxt
  have := nb_le I (n - (k + 1)) (k + 1)
  omega
theorem sta_le (I : Nat → Itm) (n : Nat) (a : Int) : sta I n a ≤ n := by
  unfold sta
  split
  · omega
  · split
    · have := nxt_le I n a.toNat (by omega); omega
    · omega
/-- The measures of an item that may be. -/
theorem okI_ms (I : Nat → Itm) (i : Nat) (h : okI I i = true) : (0 ≤ (I i).w ∧ (I i).w ≤ 68719476736) ∧ (0 ≤ (I i).st ∧ (I i).st ≤ 68719476736) ∧ (0 ≤ (I i).sh ∧ (I i).sh ≤ 68719476736) ∧ (I i).sh ≤ (I i).w ∧ ((I i).k = 3 → (I i).st = 0 ∧ (I i).sh = 0 ∧ (I i).fill = false) := by
  simp [okI, msd, ms, and_assoc] at h
  refine ⟨by omega, by omega, by omega, by omega, fun hk => ?_⟩
  have := h.2.2.2.2.2.2.2.2.2.2
  unfold ofk at this
  rw [if_neg (by omega), if_neg (by omega), if_pos hk] at this
  simp at this
  exact ⟨this.1.1.1.1, this.1.1.1.2, this.1.1.2⟩
/-- Sums of items that may be stay within bounds. -/
theorem pre_le (I : Nat → Itm) (n : Nat) (h : ∀ i, i < n → okI I i = true) (k : Nat) (hk : k ≤ n) :
    (0 ≤ (pre I k).w ∧ (pre I k).w ≤ k * 68719476736) ∧ (0 ≤ (pre I k).st ∧ (pre I k).st ≤ k * 68719476736) ∧ (0 ≤ (pre I k).sh ∧ (pre I k).sh ≤ k * 68719476736) ∧ (0 ≤ (pre I k).f ∧ (pre I k).f ≤ k) := by
  induction k with
  | zero => simp [pre, Sm.zero]
  | succ k ih =>
    have h1 := ih (by omega)
    have h2 := okI_ms I k (h k (by omega))
    simp only [pre, acc]
    refine ⟨?_, by omega, by omega, ?_⟩
    · split <;> omega
    · split <;> omega
theorem pre_mono (I : Nat → Itm) (n : Nat) (h : ∀ i, i < n → okI I i = true) (j k : Nat) (hjk : j ≤ k) (hk : k ≤ n) :
    ((pre I j).w ≤ (pre I k).w) ∧ ((pre I j).st ≤ (pre I k).st) ∧ ((pre I j).sh ≤ (pre I k).sh) ∧ ((pre I j).f ≤ (pre I k).f) ∧ (pre I j).w - (pre I j).sh ≤ (pre I k).w - (pre I k).sh := by
  induction k with
  | zero => obtain rfl : j = 0 := by omega
            simp
  | succ k ih =>
    by_cases c : j = k + 1
    · subst c; simp
    · have h1 := ih (by omega) (by omega)
      have h2 := okI_ms I k (h k (by omega))
      simp only [pre, acc]
      by_cases hk3 : (I k).k = 3
      · have := h2.2.2.2.2 hk3
        rw [if_pos hk3]
        refine ⟨by omega, by omega, by omega, ?_, by omega⟩
        split <;> omega
      · rw [if_neg hk3]
        refine ⟨by omega, by omega, by omega, ?_, by omega⟩
        split <;> omega
theorem wst_le (I : Nat → Itm) (n : Nat) (h : ∀ i, i < n → okI I i = true) (k : Nat) (hk : k ≤ n) : (0 ≤ wst I k ∧ wst I k ≤ 68719476736) ∧ ∀ j, j < k → addd (I j) ≤ wst I k := by
  induction k with
  | zero => simp [wst]
  | succ k ih =>
    have h1 := ih (by omega)
    have h2 := okI_ms I k (h k (by omega))
    have h3 : 0 ≤ addd (I k) ∧ addd (I k) ≤ 68719476736 := by unfold addd; split <;> omega
    simp only [wst]
    refine ⟨by omega, fun j hj => ?_⟩
    by_cases c : j = k
    · subst c; omega
    · have := h1.2 j (by omega); omega

structure Ft where
  num : Int
  den : Int
  bad : Int
  cls : Int
  over : Bool
def Ft.val (f : Ft) : Value := .agg #[.int .i64 f.num, .int .i64 f.den, .int .i64 f.bad, .int .i64 f.cls, .bool f.over]
def Ft.like (a b : Ft) : Bool := (a.num == b.num) && (a.den == b.den) && (a.bad == b.bad) && (a.cls == b.cls) && (a.over == b.over)
theorem Ft.like_self (a : Ft) : a.like a = true := by simp [Ft.like]
def loo (b : Int) : Int := if 99 < b then 3 else if 12 < b then 2 else 1
def tig (b : Int) : Int := if 12 < b then 0 else 1
/-- A line that lacks so much, with so much stretch. -/
def stF (l s : Int) : Ft := if s = 0 then ⟨0, 1, 10000, 3, false⟩ else ⟨lo1 l s, lo2 l s, bd l s, loo (bd l s), false⟩
def ovF (s : Int) : Ft := ⟨if s = 0 then 0 else -1, 1, 10000, 0, true⟩
/-- A line that is too wide by so much, with so much shrink. -/
def shF (x s : Int) : Ft := if s < x then ovF s else ⟨lo1 (-x) s, lo2 (-x) s, bd x s, tig (bd x s), false⟩
/-- How a line's glue is set. -/
def setF (s : Sm) (width : Int) : Ft :=
  if width - s.w = 0 ∨ (0 < width - s.w ∧ 0 < s.f) then ⟨0, 1, 0, 1, false⟩
  else if 0 < width - s.w then stF (width - s.w) s.st else shF (-(width - s.w)) s.sh
end Go.Proofs.YtkmeeblkckfepabGreat
