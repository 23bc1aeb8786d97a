/-
  Plain arithmetic of numbers by digits in the base of a thousand, the lowest first: what a list of digits is worth (vl), and when it has no nought at its end (Cn). No program in sight.
-/
import Derived.KernelRfl
namespace Go.Proofs.Ytcdcpmcjlchfgaa.Sc

/-- What the digits are worth, the lowest first. -/
def vl : List Nat → Nat
  | [] => 0
  | d :: r => d + 1000 * vl r

theorem vl_append (a b : List Nat) : vl (a ++ b) = vl a + 1000 ^ a.length * vl b := by
  induction a with
  | nil => simp [vl]
  | cons d r ih =>
    simp only [List.cons_append, vl, ih, List.length_cons, Nat.pow_succ]
    rw [Nat.mul_add, ← Nat.add_assoc, ← Nat.mul_assoc, Nat.mul_comm (1000 ^ r.length) 1000]

theorem vl_lt (a : List Nat) (h : ∀ d ∈ a, d < 1000) : vl a < 1000 ^ a.length := by
  induction a with
  | nil => simp [vl]
  | cons d r ih =>
    have h1 := ih (fun x hx => h x (List.mem_cons_of_mem _ hx))
    have h2 := h d (List.mem_cons_self)
    simp only [vl, List.length_cons, Nat.pow_succ]
    omega

theorem vl_snoc (a : List Nat) (x : Nat) : vl (a ++ [x]) = vl a + 1000 ^ a.length * x := by
  rw [vl_append]; simp [vl]

theorem vl_set (l : List Nat) (j x : Nat) (h : j < l.length) : vl (l.set j x) + l[j] * 1000 ^ j = vl l + x * 1000 ^ j := by
  induction l generalizing j with
  | nil => simp at h
  | cons d r ih =>
    cases j with
    | zero => simp [vl]; omega
    | succ j =>
      have := ih j (by simpa using h)
      simp only [List.set_cons_succ, vl, List.getElem_cons_succ, Nat.pow_succ]
      have e1 : r[j]'(by simpa using h) * (1000 ^ j * 1000) = 1000 * (r[j]'(by simpa using h) * 1000 ^ j) := by rw [← Nat.mul_assoc, Nat.mul_comm]
      have e2 : x * (1000 ^ j * 1000) = 1000 * (x * 1000 ^ j) := by rw [← Nat.mul_assoc, Nat.mul_comm]
      rw [e1, e2]
      omega

theorem vl_take (l : List Nat) (k : Nat) (h : k < l.length) : vl (l.take (k + 1)) = vl (l.take k) + 1000 ^ k * l[k] := by
  rw [List.take_succ_eq_append_getElem h, vl_snoc, List.length_take, Nat.min_eq_left (by omega)]

theorem vl_split (l : List Nat) (k : Nat) (h : k ≤ l.length) : vl l = vl (l.take k) + 1000 ^ k * vl (l.drop k) := by
  have := vl_append (l.take k) (l.drop k)
  rw [List.take_append_drop, List.length_take, Nat.min_eq_left h] at this
  exact this

theorem getD_at (l : List Nat) (j : Nat) (h : j < l.length) : l.getD j 0 = l[j] := by simp [h]

/-- Digits with no nought at the end. -/
def Cn (l : List Nat) : Prop := (∀ d ∈ l, d < 1000) ∧ (∀ h : 0 < l.length, l[l.length - 1] ≠ 0)

theorem Cn.low {l : List Nat} (h : Cn l) (hp : 0 < l.length) : 1000 ^ (l.length - 1) ≤ vl l := by
  have h1 := vl_split l (l.length - 1) (by omega)
  have h2 := h.2 hp
  have h3 : l.drop (l.length - 1) = [l[l.length - 1]] := by
    rw [List.drop_eq_getElem_cons (by omega), List.drop_of_length_le (by omega)]
  rw [h3] at h1
  simp only [vl] at h1
  have : 1000 ^ (l.length - 1) * 1 ≤ 1000 ^ (l.length - 1) * (l[l.length - 1] + 1000 * 0) := Nat.mul_le_mul_left _ (by omega)
  omega

theorem Cn.len {l : List Nat} (h : Cn l) (n : Nat) (hv : vl l < 1000 ^ n) : l.length ≤ n := by
  by_cases hp : 0 < l.length
  · have h1 := h.low hp
    by_cases c : l.length ≤ n
    · exact c
    · exfalso
      have : 1000 ^ n ≤ 1000 ^ (l.length - 1) := Nat.pow_le_pow_right (by omega) (by omega)
      omega
  · omega

theorem Cn.zero {l : List Nat} (h : Cn l) : vl l = 0 ↔ l = [] := by
  constructor
  · intro h0
    by_cases hp : 0 < l.length
    · have := h.low hp
      have := Nat.pow_pos (n := l.length - 1) (show 0 < 1000 by omega)
      omega
    · exact List.eq_nil_of_length_eq_zero (by omega)
  · rintro rfl; rfl

/-- Shorter is less. -/
theorem Cn.shorter {a b : List Nat} (ha : Cn a) (hb : Cn b) (h : a.length < b.length) : vl a < vl b := by
  have h1 := vl_lt a ha.1
  have h2 := hb.low (by omega)
  have h3 : 1000 ^ a.length ≤ 1000 ^ (b.length - 1) := Nat.pow_le_pow_right (by omega) (by omega)
  omega

/-- Of lists as long, alike from k on, the one with the less digit ahead of it is less. -/
theorem vl_less {a b : List Nat} (ha : ∀ d ∈ a, d < 1000) (k : Nat) (hl : a.length = b.length) (hk : k < a.length)
    (hd : a.drop (k + 1) = b.drop (k + 1)) (hlt : a[k] < b[k]) : vl a < vl b := by
  have h1 := vl_split a (k + 1) (by omega)
  have h2 := vl_split b (k + 1) (by omega)
  have h3 := vl_take a k hk
  have h4 := vl_take b k (by omega)
  have h5 : vl (a.take k) < 1000 ^ k := by
    have := vl_lt (a.take k) (fun d hd => ha d (List.mem_of_mem_take hd))
    rwa [List.length_take, Nat.min_eq_left (by omega)] at this
  rw [hd] at h1
  have h6 : 1000 ^ k * (a[k] + 1) ≤ 1000 ^ k * b[k] := Nat.mul_le_mul_left _ (by omega)
  rw [Nat.mul_add] at h6
  omega
end Go.Proofs.Ytcdcpmcjlchfgaa.Sc
