/-
  Plain arithmetic: what holds of the digits while two numbers are multiplied digit by digit, each carry at once put to the next digit. No program in sight.
-/
import Derived.Test.YtcdcpmcjlchfgaaScD
namespace Go.Proofs.Ytcdcpmcjlchfgaa.Sc

theorem getD_set (l : List Nat) (j x q : Nat) (h : j < l.length) : (l.set j x).getD q 0 = if q = j then x else l.getD q 0 := by
  simp only [List.getD_eq_getElem?_getD, List.getElem?_set]
  by_cases c : q = j
  · subst c; simp [h]
  · rw [if_neg (fun e => c e.symm), if_neg c]

/-- One step: at place p the product's digit is added, and what is beyond a thousand goes on to the next place. -/
def stp (o : List Nat) (p x : Nat) : List Nat :=
  ((o.set p (o.getD p 0 + x)).set (p + 1) (o.getD (p + 1) 0 + (o.getD p 0 + x) / 1000)).set p ((o.getD p 0 + x) % 1000)

theorem stp_len (o : List Nat) (p x : Nat) : (stp o p x).length = o.length := by simp [stp]
theorem stp_get (o : List Nat) (p x q : Nat) (h : p + 1 < o.length) :
    (stp o p x).getD q 0 = if q = p then (o.getD p 0 + x) % 1000 else if q = p + 1 then o.getD (p + 1) 0 + (o.getD p 0 + x) / 1000 else o.getD q 0 := by
  unfold stp
  rw [getD_set _ _ _ _ (by simp; omega)]
  by_cases c : q = p
  · rw [if_pos c, if_pos c]
  · rw [if_neg c, if_neg c, getD_set _ _ _ _ (by simp; omega)]
    by_cases d : q = p + 1
    · rw [if_pos d, if_pos d]
    · rw [if_neg d, if_neg d, getD_set _ _ _ _ (by omega), if_neg c]

theorem stp_val (o : List Nat) (p x : Nat) (h : p + 1 < o.length) : vl (stp o p x) = vl o + x * 1000 ^ p := by
  unfold stp
  generalize hu : o.getD p 0 = u
  generalize hv : o.getD (p + 1) 0 = v
  have e1 : o[p]'(by omega) = u := by rw [← hu, getD_at _ _ (by omega)]
  have e2 : o[p + 1] = v := by rw [← hv, getD_at _ _ h]
  have a1 := vl_set o p (u + x) (by omega)
  have a2 := vl_set (o.set p (u + x)) (p + 1) (v + (u + x) / 1000) (by simpa using h)
  have a3 := vl_set ((o.set p (u + x)).set (p + 1) (v + (u + x) / 1000)) p ((u + x) % 1000) (by simp; omega)
  have g2 : (o.set p (u + x))[p + 1]'(by simpa using h) = v := by rw [List.getElem_set_ne (by omega)]; exact e2
  have g3 : ((o.set p (u + x)).set (p + 1) (v + (u + x) / 1000))[p]'(by simp; omega) = u + x := by
    rw [List.getElem_set_ne (by omega), List.getElem_set_self]
  rw [e1] at a1
  rw [g2] at a2
  rw [g3] at a3
  generalize vl (((o.set p (u + x)).set (p + 1) (v + (u + x) / 1000)).set p ((u + x) % 1000)) = r3 at *
  generalize vl ((o.set p (u + x)).set (p + 1) (v + (u + x) / 1000)) = r2 at *
  generalize vl (o.set p (u + x)) = r1 at *
  rw [Nat.pow_succ] at a2
  generalize 1000 ^ p = B at *
  have hs : (u + x) = (u + x) % 1000 + 1000 * ((u + x) / 1000) := by omega
  generalize (u + x) % 1000 = m at *
  generalize (u + x) / 1000 = c at *
  have b1 : (u + x) * B = u * B + x * B := Nat.add_mul _ _ _
  have b2 : (v + c) * (B * 1000) = v * (B * 1000) + c * (B * 1000) := Nat.add_mul _ _ _
  have b3 : (u + x) * B = m * B + c * (B * 1000) := by rw [hs, Nat.add_mul, Nat.mul_comm B 1000, ← Nat.mul_assoc, Nat.mul_comm c 1000]
  omega

/-- Within the inner loop: i rounds of the outer one and k of the inner one are done. -/
structure InI (a b : List Nat) (i k : Nat) (o : List Nat) : Prop where
  len : o.length = a.length + b.length + 1
  val : vl o = vl (a.take i) * vl b + 1000 ^ i * (a.getD i 0 * vl (b.take k))
  low : ∀ j, j ≠ i + k → o.getD j 0 ≤ 1000
  mid : o.getD (i + k) 0 ≤ 2000
  top : ∀ j, i + b.length ≤ j → (k < b.length ∨ i + b.length < j) → o.getD j 0 = 0
  lst : k = b.length → o.getD (i + b.length) 0 ≤ 1000

/-- Ahead of a round of the outer loop: i are done. -/
structure InO (a b : List Nat) (i : Nat) (o : List Nat) : Prop where
  len : o.length = a.length + b.length + 1
  val : vl o = vl (a.take i) * vl b
  low : ∀ j, o.getD j 0 ≤ 1000
  top : ∀ j, i + b.length ≤ j → o.getD j 0 = 0

theorem InO.first (a b : List Nat) : InO a b 0 (List.replicate (a.length + b.length + 1) 0) := by
  have hz : ∀ n j, (List.replicate n 0).getD j 0 = 0 := by
    intro n j
    simp only [List.getD_eq_getElem?_getD, List.getElem?_replicate]
    split <;> rfl
  have hv : ∀ n, vl (List.replicate n 0) = 0 := by
    intro n
    induction n with
    | zero => rfl
    | succ n ih => simp [List.replicate_succ, vl, ih]
  exact ⟨by simp, by rw [hv]; simp [vl], fun j => by rw [hz]; omega, fun j _ => hz _ _⟩

theorem InO.enter {a b : List Nat} {i : Nat} {o : List Nat} (h : InO a b i o) : InI a b i 0 o :=
  ⟨h.len, by rw [h.val]; simp [vl], fun j _ => h.low j, by have := h.low (i + 0); omega, fun j hj _ => h.top j hj, fun _ => h.low _⟩

theorem mul_le_dig (x y : Nat) (hx : x < 1000) (hy : y < 1000) : x * y ≤ 998001 := by
  have : x * y ≤ 999 * 999 := Nat.mul_le_mul (by omega) (by omega)
  omega

theorem getD_dig {l : List Nat} (h : ∀ d ∈ l, d < 1000) (j : Nat) : l.getD j 0 < 1000 := by
  by_cases c : j < l.length
  · rw [getD_at _ _ c]; exact h _ (List.getElem_mem c)
  · simp [List.getD_eq_getElem?_getD, List.getElem?_eq_none (by omega : l.length ≤ j)]

theorem InI.next {a b : List Nat} {i k : Nat} {o : List Nat} (h : InI a b i k o) (hi : i < a.length) (hk : k < b.length)
    (ha : ∀ d ∈ a, d < 1000) (hb : ∀ d ∈ b, d < 1000) : InI a b i (k + 1) (stp o (i + k) (a.getD i 0 * b.getD k 0)) := by
  have hp : i + k + 1 < o.length := by rw [h.len]; omega
  have hxy := mul_le_dig _ _ (getD_dig ha i) (getD_dig hb k)
  have hm := h.mid
  have hl := h.low (i + k + 1) (by omega)
  refine ⟨by rw [stp_len]; exact h.len, ?_, ?_, ?_, ?_, ?_⟩
  · rw [stp_val _ _ _ hp, h.val, vl_take b k hk, ← getD_at b k hk, Nat.mul_add (a.getD i 0), Nat.mul_add (1000 ^ i), Nat.pow_add, Nat.add_assoc]
    congr 2
    rw [Nat.mul_comm (a.getD i 0 * b.getD k 0), Nat.mul_assoc, Nat.mul_left_comm (1000 ^ k)]
  · intro j hj
    rw [stp_get _ _ _ _ hp]
    by_cases c : j = i + k
    · rw [if_pos c]; omega
    · rw [if_neg c, if_neg (by omega)]; exact h.low j c
  · rw [stp_get _ _ _ _ hp, if_neg (by omega), if_pos (by omega)]
    omega
  · intro j h1 h2
    rw [stp_get _ _ _ _ hp, if_neg (by omega), if_neg (by omega)]
    exact h.top j h1 (by omega)
  · intro hkk
    rw [stp_get _ _ _ _ hp, if_neg (by omega), if_pos (by omega)]
    have := h.top (i + k + 1) (by omega) (by omega)
    omega

theorem InI.leave {a b : List Nat} {i : Nat} {o : List Nat} (h : InI a b i b.length o) (hi : i < a.length) : InO a b (i + 1) o := by
  refine ⟨h.len, ?_, ?_, ?_⟩
  · rw [h.val, List.take_of_length_le (Nat.le_refl _), vl_take a i hi, ← getD_at a i hi, Nat.add_mul, Nat.mul_assoc]
  · intro j
    by_cases c : j = i + b.length
    · rw [c]; exact h.lst rfl
    · exact h.low j c
  · intro j hj
    exact h.top j (by omega) (by omega)

/-- Within the last loop: the first i digits are below a thousand. -/
structure InT (n v i : Nat) (o : List Nat) : Prop where
  len : o.length = n
  val : vl o = v
  done : ∀ j, j < i → o.getD j 0 < 1000
  here : o.getD i 0 ≤ 1001
  rest : ∀ j, i < j → o.getD j 0 ≤ 1000

theorem InO.last {a b : List Nat} {o : List Nat} (h : InO a b a.length o) : InT (a.length + b.length + 1) (vl a * vl b) 0 o :=
  ⟨h.len, by rw [h.val, List.take_of_length_le (Nat.le_refl _)], fun j hj => by omega, by have := h.low 0; omega, fun j _ => h.low j⟩

/-- One step of the last loop. -/
def stq (o : List Nat) (p : Nat) : List Nat := (o.set (p + 1) (o.getD (p + 1) 0 + o.getD p 0 / 1000)).set p (o.getD p 0 % 1000)
theorem stq_stp (o : List Nat) (p : Nat) (h : p + 1 < o.length) : stq o p = stp o p 0 := by
  unfold stq stp
  have e : o.set p (o.getD p 0 + 0) = o := by rw [Nat.add_zero, getD_at _ _ (by omega), List.set_getElem_self]
  rw [e]; simp

theorem InT.next {n v i : Nat} {o : List Nat} (h : InT n v i o) (hi : i + 1 < n) : InT n v (i + 1) (stq o i) := by
  have hp : i + 1 < o.length := by rw [h.len]; exact hi
  rw [stq_stp o i hp]
  refine ⟨by rw [stp_len]; exact h.len, by rw [stp_val _ _ _ hp, h.val]; omega, ?_, ?_, ?_⟩
  · intro j hj
    rw [stp_get _ _ _ _ hp]
    by_cases c : j = i
    · rw [if_pos c]; omega
    · rw [if_neg c, if_neg (by omega)]; exact h.done j (by omega)
  · rw [stp_get _ _ _ _ hp, if_neg (by omega), if_pos rfl]
    have := h.here
    have := h.rest (i + 1) (by omega)
    omega
  · intro j hj
    rw [stp_get _ _ _ _ hp, if_neg (by omega), if_neg (by omega)]
    exact h.rest j (by omega)

theorem InT.all {a b : List Nat} {o : List Nat} (ha : ∀ d ∈ a, d < 1000) (hb : ∀ d ∈ b, d < 1000) (h : InT (a.length + b.length + 1) (vl a * vl b) (a.length + b.length) o) : ∀ d ∈ o, d < 1000 := by
  have h1 := vl_lt a ha
  have h2 := vl_lt b hb
  have h3 : vl a * vl b < 1000 ^ (a.length + b.length) := by
    rw [Nat.pow_add]
    exact Nat.mul_lt_mul'' h1 h2
  have h4 := vl_split o (a.length + b.length) (by rw [h.len]; omega)
  have h5 : o.drop (a.length + b.length) = [o.getD (a.length + b.length) 0] := by
    rw [List.drop_eq_getElem_cons (by rw [h.len]; omega), List.drop_of_length_le (by rw [h.len]; omega), getD_at _ _ (by rw [h.len]; omega)]
  rw [h5, h.val] at h4
  simp only [vl] at h4
  have h6 : o.getD (a.length + b.length) 0 = 0 := by
    by_cases c : o.getD (a.length + b.length) 0 = 0
    · exact c
    · exfalso
      have : 1000 ^ (a.length + b.length) * 1 ≤ 1000 ^ (a.length + b.length) * (o.getD (a.length + b.length) 0 + 1000 * 0) := Nat.mul_le_mul_left _ (by omega)
      omega
  intro d hd
  obtain ⟨j, hj, rfl⟩ := List.getElem_of_mem hd
  rw [h.len] at hj
  by_cases c : j = a.length + b.length
  · subst c; rw [← getD_at]; omega
  · rw [← getD_at]; exact h.done j (by omega)
end Go.Proofs.Ytcdcpmcjlchfgaa.Sc
