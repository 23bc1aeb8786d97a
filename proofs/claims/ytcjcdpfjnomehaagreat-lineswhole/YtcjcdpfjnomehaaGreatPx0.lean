/-
  Plain arithmetic of whole numbers, with no program in sight: the number that is nearest within the bounds (cl), and how the quotient rounded down follows from the one that is cut towards nought.
-/
import Derived.KernelRfl
namespace Go.Proofs.YtcjcdpfjnomehaaGreat
def cl (a : Int) : Int := if a < -1152921504606846976 then -1152921504606846976 else if 1152921504606846976 < a then 1152921504606846976 else a
theorem cl_le (a : Int) : -1152921504606846976 ≤ cl a ∧ cl a ≤ 1152921504606846976 := by unfold cl; split <;> (try split) <;> omega
theorem cl_zero (a : Int) : cl a = 0 ↔ a = 0 := by unfold cl; split <;> (try split) <;> omega
theorem cl_same (a : Int) (h1 : -1152921504606846976 ≤ a) (h2 : a ≤ 1152921504606846976) : cl a = a := by unfold cl; split <;> (try split) <;> omega
theorem cl_cl (a : Int) : cl (cl a) = cl a := cl_same _ (cl_le a).1 (cl_le a).2
theorem fd_uniq (x y q r : Int) (h : x = q * y + r) (hr : (0 ≤ r ∧ r < y) ∨ (y < r ∧ r ≤ 0)) : x.fdiv y = q ∧ x.fmod y = r := by
  have key : ∀ (x y q r : Int), x = q * y + r → 0 ≤ r → r < y → x.fdiv y = q := by
    intro x y q r h h0 h1
    rw [Int.fdiv_eq_ediv_of_nonneg _ (by omega)]
    have e : r + y * q = x := by rw [h, Int.mul_comm]; omega
    exact ((Int.ediv_emod_unique (by omega)).2 ⟨e, h0, h1⟩).1
  have hq : x.fdiv y = q := by
    rcases hr with ⟨a, b⟩ | ⟨a, b⟩
    · exact key x y q r h a b
    · rw [← Int.neg_fdiv_neg]
      exact key (-x) (-y) q (-r) (by rw [h, Int.mul_neg]; omega) (by omega) (by omega)
  refine ⟨hq, ?_⟩
  have := Int.fmod_add_mul_fdiv x y
  rw [hq, Int.mul_comm] at this
  omega
theorem td_le (x y : Int) : (0 ≤ x → -x ≤ x.tdiv y ∧ x.tdiv y ≤ x) ∧ (x ≤ 0 → x ≤ x.tdiv y ∧ x.tdiv y ≤ -x) := by
  have h := Int.natAbs_tdiv_le_natAbs x y
  omega
end Go.Proofs.YtcjcdpfjnomehaaGreat

/-
  Plain arithmetic of numbers by digits in the base of a thousand, the lowest first: what a list of digits is worth (vl), and when it has no nought at its end (Cn). No program in sight.
-/
namespace Go.Proofs.YtcjcdpfjnomehaaGreat
def vl : List Nat → Nat
  | [] => 0
  | d :: r => d + 1000 * vl r
theorem vl_append (a b : List Nat) : vl (a ++ b) = vl a + 1000 ^ a.length * vl b := by
  induction a with
  | nil => simp [vl]
  | cons d r ih =>
    simp only [List.cons_append, vl, ih, List.length_cons, Nat.pow_succ]
    rw [Nat.mul_add, ← Nat.add_assoc, ← Nat.mul_assoc, Nat.mul_comm (1000 ^ r.length) 1000]
theorem vl_lt (a : List Nat) (h : ∀ d ∈ a, d < 1000) : vl a < 1000 ^ a.length := by
  induction a with
  | nil => simp [vl]
  | cons d r ih =>
    have h1 := ih (fun x hx => h x (List.mem_cons_of_mem _ hx))
    have h2 := h d (List.mem_cons_self)
    simp only [vl, List.length_cons, Nat.pow_succ]
    omega
theorem vl_snoc (a : List Nat) (x : Nat) : vl (a ++ [x]) = vl a + 1000 ^ a.length * x := by
  rw [vl_append]; simp [vl]
theorem vl_set (l : List Nat) (j x : Nat) (h : j < l.length) : vl (l.set j x) + l[j] * 1000 ^ j = vl l + x * 1000 ^ j := by
  induction l generalizing j with
  | nil => simp at h
  | cons d r ih =>
    cases j with
    | zero => simp [vl]; omega
    | succ j =>
      have := ih j (by simpa using h)
      simp only [List.set_cons_succ, vl, List.getElem_cons_succ, Nat.pow_succ]
      have e1 : r[j]'(by simpa using h) * (1000 ^ j * 1000) = 1000 * (r[j]'(by simpa using h) * 1000 ^ j) := by rw [← Nat.mul_assoc, Nat.mul_comm]
      have e2 : x * (1000 ^ j * 1000) = 1000 * (x * 1000 ^ j) := by rw [← Nat.mul_assoc, Nat.mul_comm]
      rw [e1, e2]
      omega
theorem vl_take (l : List Nat) (k : Nat) (h : k < l.length) : vl (l.take (k + 1)) = vl (l.take k) + 1000 ^ k * l[k] := by
  rw [List.take_succ_eq_append_getElem h, vl_snoc, List.length_take, Nat.min_eq_left (by omega)]
theorem vl_split (l : List Nat) (k : Nat) (h : k ≤ l.length) : vl l = vl (l.take k) + 1000 ^ k * vl (l.drop k) := by
  have := vl_append (l.take k) (l.drop k)
  rw [List.take_append_drop, List.length_take, Nat.min_eq_left h] at this
  exact this
theorem getD_at (l : List Nat) (j : Nat) (h : j < l.length) : l.getD j 0 = l[j] := by simp [h]
def Cn (l : List Nat) : Prop := (∀ d ∈ l, d < 1000) ∧ (∀ h : 0 < l.length, l[l.length - 1] ≠ 0)
theorem Cn.low {l : List Nat} (h : Cn l) (hp : 0 < l.length) : 1000 ^ (l.length - 1) ≤ vl l := by
  have h1 := vl_split l (l.length - 1) (by omega)
  have h2 := h.2 hp
  have h3 : l.drop (l.length - 1) = [l[l.length - 1]] := by
    rw [List.drop_eq_getElem_cons (by omega), List.drop_of_length_le (by omega)]
  rw [h3] at h1
  simp only [vl] at h1
  have : 1000 ^ (l.length - 1) * 1 ≤ 1000 ^ (l.length - 1) * (l[l.length - 1] + 1000 * 0) := Nat.mul_le_mul_left _ (by omega)
  omega
theorem Cn.len {l : List Nat} (h : Cn l) (n : Nat) (hv : vl l < 1000 ^ n) : l.length ≤ n := by
  by_cases hp : 0 < l.length
  · have h1 := h.low hp
    by_cases c : l.length ≤ n
    · exact c
    · exfalso
      have : 1000 ^ n ≤ 1000 ^ (l.length - 1) := Nat.pow_le_pow_right (by omega) (by omega)
      omega
  · omega
theorem Cn.zero {l : List Nat} (h : Cn l) : vl l = 0 ↔ l = [] := by
  constructor
  · intro h0
    by_cases hp : 0 < l.length
    · have := h.low hp
      have := Nat.pow_pos (n := l.length - 1) (show 0 < 1000 by omega)
      omega
    · exact List.eq_nil_of_length_eq_zero (by omega)
  · rintro rfl; rfl
end Go.Proofs.YtcjcdpfjnomehaaGreat

/-
  Plain arithmetic: what holds of the digits while two numbers are multiplied digit by digit, each carry at once put to the next digit. No program in sight.
-/
namespace Go.Proofs.YtcjcdpfjnomehaaGreat
theorem getD_set (l : List Nat) (j x q : Nat) (h : j < l.length) : (l.set j x).getD q 0 = if q = j then x else l.getD q 0 := by
  simp only [List.getD_eq_getElem?_getD, List.getElem?_set]
  by_cases c : q = j
  · subst c; simp [h]
  · rw [if_neg (fun e => c e.symm), if_neg c]
def stp (o : List Nat) (p x : Nat) : List Nat :=
  ((o.set p (o.getD p 0 + x)).set (p + 1) (o.getD (p + 1) 0 + (o.getD p 0 + x) / 1000)).set p ((o.getD p 0 + x) % 1000)
theorem stp_len (o : List Nat) (p x : Nat) : (stp o p x).length = o.length := by simp [stp]
theorem stp_get (o : List Nat) (p x q : Nat) (h : p + 1 < o.length) :
    (stp o p x).getD q 0 = if q = p then (o.getD p 0 + x) % 1000 else if q = p + 1 then o.getD (p + 1) 0 + (o.getD p 0 + x) / 1000 else o.getD q 0 := by
  unfold stp
  rw [getD_set _ _ _ _ (by simp; omega)]
  by_cases c : q = p
  · rw [if_pos c, if_pos c]
  · rw [if_neg c, if_neg c, getD_set _ _ _ _ (by simp; omega)]
    by_cases d : q = p + 1
    · rw [if_pos d, if_pos d]
    · rw [if_neg d, if_neg d, getD_set _ _ _ _ (by omega), if_neg c]
theorem stp_val (o : List Nat) (p x : Nat) (h : p + 1 < o.length) : vl (stp o p x) = vl o + x * 1000 ^ p := by
  unfold stp
  generalize hu : o.getD p 0 = u
  generalize hv : o.getD (p + 1) 0 = v
  have e1 : o[p]'(by omega) = u := by rw [← hu, getD_at _ _ (by omega)]
  have e2 : o[p + 1] = v := by rw [← hv, getD_at _ _ h]
  have a1 := vl_set o p (u + x) (by omega)
  have a2 := vl_set (o.set p (u + x)) (p + 1) (v + (u + x) / 1000) (by simpa using h)
  have a3 := vl_set ((o.set p (u + x)).set (p + 1) (v + (u + x) / 1000)) p ((u + x) % 1000) (by simp; omega)
  have g2 : (o.set p (u + x))[p + 1]'(by simpa using h) = v := by rw [List.getElem_set_ne (by omega)]; exact e2
  have g3 : ((o.set p (u + x)).set (p + 1) (v + (u + x) / 1000))[p]'(by simp; omega) = u + x := by
    rw [List.getElem_set_ne (by omega), List.getElem_set_self]
  rw [e1] at a1
  rw [g2] at a2
  rw [g3] at a3
  generalize vl (((o.set p (u + x)).set (p + 1) (v + (u + x) / 1000)).set p ((u + x) % 1000)) = r3 at *
  generalize vl ((o.set p (u + x)).set (p + 1) (v + (u + x) / 1000)) = r2 at *
  generalize vl (o.set p (u + x)) = r1 at *
  rw [Nat.pow_succ] at a2
  generalize 1000 ^ p = B at *
  have hs : (u + x) = (u + x) % 1000 + 1000 * ((u + x) / 1000) := by omega
  generalize (u + x) % 1000 = m at *
  generalize (u + x) / 1000 = c at *
  have b1 : (u + x) * B = u * B + x * B := Nat.add_mul _ _ _
  have b2 : (v + c) * (B * 1000) = v * (B * 1000) + c * (B * 1000) := Nat.add_mul _ _ _
  have b3 : (u + x) * B = m * B + c * (B * 1000) := by rw [hs, Nat.add_mul, Nat.mul_comm B 1000, ← Nat.mul_assoc, Nat.mul_comm c 1000]
  omega
structure InI (a b : List Nat) (i k : Nat) (o : List Nat) : Prop where
  len : o.length = a.length + b.length + 1
  val : vl o = vl (a.take i) * vl b + 1000 ^ i * (a.getD i 0 * vl (b.take k))
  low : ∀ j, j ≠ i + k → o.getD j 0 ≤ 1000
  mid : o.getD (i + k) 0 ≤ 2000
  top : ∀ j, i + b.length ≤ j → (k < b.length ∨ i + b.length < j) → o.getD j 0 = 0
  lst : k = b.length → o.getD (i + b.length) 0 ≤ 1000
structure InO (a b : List Nat) (i : Nat) (o : List Nat) : Prop where
  len : o.length = a.length + b.length + 1
  val : vl o = vl (a.take i) * vl b
  low : ∀ j, o.getD j 0 ≤ 1000
  top : ∀ j, i + b.length ≤ j → o.getD j 0 = 0
theorem InO.first (a b : List Nat) : InO a b 0 (List.replicate (a.length + b.length + 1) 0) := by
  have hz : ∀ n j, (List.replicate n 0).getD j 0 = 0 := by
    intro n j
    simp only [List.getD_eq_getElem?_getD, List.getElem?_replicate]
    split <;> rfl
  have hv : ∀ n, vl (List.replicate n 0) = 0 := by
    intro n
    induction n with
    | zero => rfl
    | succ n ih => simp [List.replicate_succ, vl, ih]
  exact ⟨by simp, by rw [hv]; simp [vl], fun j => by rw [hz]; omega, fun j _ => hz _ _⟩
theorem InO.enter {a b : List Nat} {i : Nat} {o : List Nat} (h : InO a b i o) : InI a b i 0 o :=
  ⟨h.len, by rw [h.val]; simp [vl], fun j _ => h.low j, by have := h.low (i + 0); omega, fun j hj _ => h.top j hj, fun _ => h.low _⟩
theorem mul_le_dig (x y : Nat) (hx : x < 1000) (hy : y < 1000) : x * y ≤ 998001 := by
  have : x * y ≤ 999 * 999 := Nat.mul_le_mul (by omega) (by omega)
  omega
theorem getD_dig {l : List Nat} (h : ∀ d ∈ l, d < 1000) (j : Nat) : l.getD j 0 < 1000 := by
  by_cases c : j < l.length
  · rw [getD_at _ _ c]; exact h _ (List.getElem_mem c)
  · simp [List.getD_eq_getElem?_getD, List.getElem?_eq_none (by omega : l.length ≤ j)]
theorem InI.next {a b : List Nat} {i k : Nat} {o : List Nat} (h : InI a b i k o) (hi : i < a.length) (hk : k < b.length)
    (ha : ∀ d ∈ a, d < 1000) (hb : ∀ d ∈ b, d < 1000) : InI a b i (k + 1) (stp o (i + k) (a.getD i 0 * b.getD k 0)) := by
  have hp : i + k + 1 < o.length := by rw [h.len]; omega
  have hxy := mul_le_dig _ _ (getD_dig ha i) (getD_dig hb k)
  have hm := h.mid
  have hl := h.low (i + k + 1) (by omega)
  refine ⟨by rw [stp_len]; exact h.len, ?_, ?_, ?_, ?_, ?_⟩
  · rw [stp_val _ _ _ hp, h.val, vl_take b k hk, ← getD_at b k hk, Nat.mul_add (a.getD i 0), Nat.mul_add (1000 ^ i), Nat.pow_add, Nat.add_assoc]
    congr 2
    rw [Nat.mul_comm (a.getD i 0 * b.getD k 0), Nat.mul_assoc, Nat.mul_left_comm (1000 ^ k)]
  · intro j hj
    rw [stp_get _ _ _ _ hp]
    by_cases c : j = i + k
    · rw [if_pos c]; omega
    · rw [if_neg c, if_neg (by omega)]; exact h.low j c
  · rw [stp_get _ _ _ _ hp, if_neg (by omega), if_pos (by omega)]
    omega
  · intro j h1 h2
    rw [stp_get _ _ _ _ hp, if_neg (by omega), if_neg (by omega)]
    exact h.top j h1 (by omega)
  · intro hkk
    rw [stp_get _ _ _ _ hp, if_neg (by omega), if_pos (by omega)]
    have := h.top (i + k + 1) (by omega) (by omega)
    omega
theorem InI.leave {a b : List Nat} {i : Nat} {o : List Nat} (h : InI a b i b.length o) (hi : i < a.length) : InO a b (i + 1) o := by
  refine ⟨h.len, ?_, ?_, ?_⟩
  · rw [h.val, List.take_of_length_le (Nat.le_refl _), vl_take a i hi, ← getD_at a i hi, Nat.add_mul, Nat.mul_assoc]
  · intro j
    by_cases c : j = i + b.length
    · rw [c]; exact h.lst rfl
    · exact h.low j c
  · intro j hj
    exact h.top j (by omega) (by omega)
structure InT (n v i : Nat) (o : List Nat) : Prop where
  len : o.length = n
  val : vl o = v
  done : ∀ j, j < i → o.getD j 0 < 1000
  here : o.getD i 0 ≤ 1001
  rest : ∀ j, i < j → o.getD j 0 ≤ 1000
theorem InO.last {a b : List Nat} {o : List Nat} (h : InO a b a.length o) : InT (a.length + b.length + 1) (vl a * vl b) 0 o :=
  ⟨h.len, by rw [h.val, List.take_of_length_le (Nat.le_refl _)], fun j hj => by omega, by have := h.low 0; omega, fun j _ => h.low j⟩
def stq (o : List Nat) (p : Nat) : List Nat := (o.set (p + 1) (o.getD (p + 1) 0 + o.getD p 0 / 1000)).set p (o.getD p 0 % 1000)
theorem stq_stp (o : List Nat) (p : Nat) (h : p + 1 < o.length) : stq o p = stp o p 0 := by
  unfold stq stp
  have e : o.set p (o.getD p 0 + 0) = o := by rw [Nat.add_zero, getD_at _ _ (by omega), List.set_getElem_self]
  rw [e]; simp
theorem InT.next {n v i : Nat} {o : List Nat} (h : InT n v i o) (hi : i + 1 < n) : InT n v (i + 1) (stq o i) := by
  have hp : i + 1 < o.length := by rw [h.len]; exact hi
  rw [stq_stp o i hp]
  refine ⟨by rw [stp_len]; exact h.len, by rw [stp_val _ _ _ hp, h.val]; omega, ?_, ?_, ?_⟩
  · intro j hj
    rw [stp_get _ _ _ _ hp]
    by_cases c : j = i
    · rw [if_pos c]; omega
    · rw [if_neg c, if_neg (by omega)]; exact h.done j (by omega)
  · rw [stp_get _ _ _ _ hp, if_neg (by omega), if_pos rfl]
    have := h.here
    have := h.rest (i + 1) (by omega)
    omega
  · intro j hj
    rw [stp_get _ _ _ _ hp, if_neg (by omega), if_neg (by omega)]
    exact h.rest j (by omega)
theorem InT.all {a b : List Nat} {o : List Nat} (ha : ∀ d ∈ a, d < 1000) (hb : ∀ d ∈ b, d < 1000) (h : InT (a.length + b.length + 1) (vl a * vl b) (a.length + b.length) o) : ∀ d ∈ o, d < 1000 := by
  have h1 := vl_lt a ha
  have h2 := vl_lt b hb
  have h3 : vl a * vl b < 1000 ^ (a.length + b.length) := by
    rw [Nat.pow_add]
    exact Nat.mul_lt_mul'' h1 h2
  have h4 := vl_split o (a.length + b.length) (by rw [h.len]; omega)
  have h5 : o.drop (a.length + b.length) = [o.getD (a.length + b.length) 0] := by
    rw [List.drop_eq_getElem_cons (by rw [h.len]; omega), List.drop_of_length_le (by rw [h.len]; omega), getD_at _ _ (by rw [h.len]; omega)]
  rw [h5, h.val] at h4
  simp only [vl] at h4
  have h6 : o.getD (a.length + b.length) 0 = 0 := by
    by_cases c : o.getD (a.length + b.length) 0 = 0
    · exact c
    · exfalso
      have : 1000 ^ (a.length + b.length) * 1 ≤ 1000 ^ (a.length + b.length) * (o.getD (a.length + b.length) 0 + 1000 * 0) := Nat.mul_le_mul_left _ (by omega)
      omega
  intro d hd
  obtain ⟨j, hj, rfl⟩ := List.getElem_of_mem hd
  rw [h.len] at hj
  by_cases c : j = a.length + b.length
  · subst c; rw [← getD_at]; omega
  · rw [← getD_at]; exact h.done j (by omega)
end Go.Proofs.YtcjcdpfjnomehaaGreat
