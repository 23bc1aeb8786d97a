/-
  Plain arithmetic of texts as bytes: the rune with which the bytes at a place begin, the places that a text's runes begin at, one behind the other, and how many there are. No program in it.
-/
import Derived.Test.YtcjcdpfjnomehaaGreatRows
import Derived.WalkKit
namespace Go.Proofs.YtcjcdpfjnomehaaGreat.It
set_option linter.unusedSimpArgs false
set_option linter.unusedVariables false
structure Box (p : Prop) : Prop where
  out : p
theorem boxed {p : Prop} (h : p) : Box p := ⟨h⟩
def bt (s : ByteArray) (k : Nat) : Nat := if h : k < s.size then s[k].toNat else 256
theorem bt_in (s : ByteArray) (k : Nat) (h : k < s.size) : bt s k = s[k].toNat := by simp [bt, h]
theorem bt_out (s : ByteArray) (k : Nat) (h : ¬ k < s.size) : bt s k = 256 := by simp [bt, h]
theorem bt_lt (s : ByteArray) (k : Nat) (h : k < s.size) : bt s k < 256 := by
  rw [bt_in s k h]; exact s[k].toNat_lt
theorem bt_lt_iff (s : ByteArray) (k : Nat) : bt s k < 256 ↔ k < s.size := by
  constructor
  · intro h
    by_cases c : k < s.size
    · exact c
    · rw [bt_out s k c] at h; omega
  · exact bt_lt s k
def dec (b0 b1 b2 b3 : Nat) : Nat × Nat :=
  if b0 < 128 then (b0, 1)
  else if (192 ≤ b0 ∧ b0 < 224) ∧ (128 ≤ b1 ∧ b1 < 192) ∧ 128 ≤ (b0 - 192) * 64 + (b1 - 128) then ((b0 - 192) * 64 + (b1 - 128), 2)
  else if (224 ≤ b0 ∧ b0 < 240) ∧ (128 ≤ b1 ∧ b1 < 192) ∧ (128 ≤ b2 ∧ b2 < 192) ∧ 2048 ≤ (b0 - 224) * 4096 + (b1 - 128) * 64 + (b2 - 128) ∧
      ((b0 - 224) * 4096 + (b1 - 128) * 64 + (b2 - 128) < 55296 ∨ 57343 < (b0 - 224) * 4096 + (b1 - 128) * 64 + (b2 - 128)) then ((b0 - 224) * 4096 + (b1 - 128) * 64 + (b2 - 128), 3)
  else if (240 ≤ b0 ∧ b0 < 248) ∧ (128 ≤ b1 ∧ b1 < 192) ∧ (128 ≤ b2 ∧ b2 < 192) ∧ (128 ≤ b3 ∧ b3 < 192) ∧ 65536 ≤ (b0 - 240) * 262144 + (b1 - 128) * 4096 + (b2 - 128) * 64 + (b3 - 128) ∧
      (b0 - 240) * 262144 + (b1 - 128) * 4096 + (b2 - 128) * 64 + (b3 - 128) ≤ 1114111 then ((b0 - 240) * 262144 + (b1 - 128) * 4096 + (b2 - 128) * 64 + (b3 - 128), 4)
  else (0, 0)
theorem dec_cases (b0 b1 b2 b3 : Nat) :
    (b0 < 128 ∧ dec b0 b1 b2 b3 = (b0, 1)) ∨
    (((192 ≤ b0 ∧ b0 < 224) ∧ (128 ≤ b1 ∧ b1 < 192) ∧ 128 ≤ (b0 - 192) * 64 + (b1 - 128)) ∧ dec b0 b1 b2 b3 = ((b0 - 192) * 64 + (b1 - 128), 2)) ∨
    (((224 ≤ b0 ∧ b0 < 240) ∧ (128 ≤ b1 ∧ b1 < 192) ∧ (128 ≤ b2 ∧ b2 < 192) ∧ 2048 ≤ (b0 - 224) * 4096 + (b1 - 128) * 64 + (b2 - 128) ∧
      ((b0 - 224) * 4096 + (b1 - 128) * 64 + (b2 - 128) < 55296 ∨ 57343 < (b0 - 224) * 4096 + (b1 - 128) * 64 + (b2 - 128))) ∧ dec b0 b1 b2 b3 = ((b0 - 224) * 4096 + (b1 - 128) * 64 + (b2 - 128), 3)) ∨
    (((240 ≤ b0 ∧ b0 < 248) ∧ (128 ≤ b1 ∧ b1 < 192) ∧ (128 ≤ b2 ∧ b2 < 192) ∧ (128 ≤ b3 ∧ b3 < 192) ∧ 65536 ≤ (b0 - 240) * 262144 + (b1 - 128) * 4096 + (b2 - 128) * 64 + (b3 - 128) ∧
      (b0 - 240) * 262144 + (b1 - 128) * 4096 + (b2 - 128) * 64 + (b3 - 128) ≤ 1114111) ∧ dec b0 b1 b2 b3 = ((b0 - 240) * 262144 + (b1 - 128) * 4096 + (b2 - 128) * 64 + (b3 - 128), 4)) ∨
    (dec b0 b1 b2 b3 = (0, 0)) := by
  unfold dec
  split
  · exact Or.inl ⟨by assumption, rfl⟩
  split
  · exact Or.inr (Or.inl ⟨by assumption, rfl⟩)
  split
  · exact Or.inr (Or.inr (Or.inl ⟨by assumption, rfl⟩))
  split
  · exact Or.inr (Or.inr (Or.inr (Or.inl ⟨by assumption, rfl⟩)))
  · exact Or.inr (Or.inr (Or.inr (Or.inr rfl)))
theorem dec1 {b0 b1 b2 b3 : Nat} (h : b0 < 128) : dec b0 b1 b2 b3 = (b0, 1) := by unfold dec; rw [if_pos h]
theorem dec2 {b0 b1 b2 b3 : Nat} (h1 : 192 ≤ b0 ∧ b0 < 224) (h2 : 128 ≤ b1 ∧ b1 < 192) (h : 128 ≤ (b0 - 192) * 64 + (b1 - 128)) : dec b0 b1 b2 b3 = ((b0 - 192) * 64 + (b1 - 128), 2) := by
  unfold dec; rw [if_neg (by omega), if_pos ⟨h1, h2, h⟩]
theorem dec3 {b0 b1 b2 b3 : Nat} (h1 : 224 ≤ b0 ∧ b0 < 240) (h2 : 128 ≤ b1 ∧ b1 < 192) (h3 : 128 ≤ b2 ∧ b2 < 192) (h : 2048 ≤ (b0 - 224) * 4096 + (b1 - 128) * 64 + (b2 - 128))
    (h' : (b0 - 224) * 4096 + (b1 - 128) * 64 + (b2 - 128) < 55296 ∨ 57343 < (b0 - 224) * 4096 + (b1 - 128) * 64 + (b2 - 128)) : dec b0 b1 b2 b3 = ((b0 - 224) * 4096 + (b1 - 128) * 64 + (b2 - 128), 3) := by
  unfold dec; rw [if_neg (by omega), if_neg (by omega), if_pos ⟨h1, h2, h3, h, h'⟩]
theorem dec4 {b0 b1 b2 b3 : Nat} (h1 : 240 ≤ b0 ∧ b0 < 248) (h2 : 128 ≤ b1 ∧ b1 < 192) (h3 : 128 ≤ b2 ∧ b2 < 192) (h4 : 128 ≤ b3 ∧ b3 < 192)
    (h : 65536 ≤ (b0 - 240) * 262144 + (b1 - 128) * 4096 + (b2 - 128) * 64 + (b3 - 128)) (h' : (b0 - 240) * 262144 + (b1 - 128) * 4096 + (b2 - 128) * 64 + (b3 - 128) ≤ 1114111) :
    dec b0 b1 b2 b3 = ((b0 - 240) * 262144 + (b1 - 128) * 4096 + (b2 - 128) * 64 + (b3 - 128), 4) := by
  unfold dec; rw [if_neg (by omega), if_neg (by omega), if_neg (by omega), if_pos ⟨h1, h2, h3, h4, h, h'⟩]
theorem dec0 {b0 b1 b2 b3 : Nat} (h1 : ¬ b0 < 128) (h2 : ¬ ((192 ≤ b0 ∧ b0 < 224) ∧ (128 ≤ b1 ∧ b1 < 192) ∧ 128 ≤ (b0 - 192) * 64 + (b1 - 128)))
    (h3 : ¬ ((224 ≤ b0 ∧ b0 < 240) ∧ (128 ≤ b1 ∧ b1 < 192) ∧ (128 ≤ b2 ∧ b2 < 192) ∧ 2048 ≤ (b0 - 224) * 4096 + (b1 - 128) * 64 + (b2 - 128) ∧
      ((b0 - 224) * 4096 + (b1 - 128) * 64 + (b2 - 128) < 55296 ∨ 57343 < (b0 - 224) * 4096 + (b1 - 128) * 64 + (b2 - 128))))
    (h4 : ¬ ((240 ≤ b0 ∧ b0 < 248) ∧ (128 ≤ b1 ∧ b1 < 192) ∧ (128 ≤ b2 ∧ b2 < 192) ∧ (128 ≤ b3 ∧ b3 < 192) ∧ 65536 ≤ (b0 - 240) * 262144 + (b1 - 128) * 4096 + (b2 - 128) * 64 + (b3 - 128) ∧
      (b0 - 240) * 262144 + (b1 - 128) * 4096 + (b2 - 128) * 64 + (b3 - 128) ≤ 1114111)) : dec b0 b1 b2 b3 = (0, 0) := by
  unfold dec; rw [if_neg h1, if_neg h2, if_neg h3, if_neg h4]
theorem dec_shape (b0 b1 b2 b3 : Nat) : ((dec b0 b1 b2 b3).2 = 0 ∧ (dec b0 b1 b2 b3).1 = 0) ∨ ((dec b0 b1 b2 b3).2 ≤ 4 ∧ 1 ≤ (dec b0 b1 b2 b3).2 ∧ (dec b0 b1 b2 b3).1 ≤ 1114111 ∧ (b0 < 128 ∨ (192 ≤ b0 ∧ b0 < 248)) ∧
    (1 < (dec b0 b1 b2 b3).2 → 128 ≤ b1 ∧ b1 < 192) ∧ (2 < (dec b0 b1 b2 b3).2 → 128 ≤ b2 ∧ b2 < 192) ∧ (3 < (dec b0 b1 b2 b3).2 → 128 ≤ b3 ∧ b3 < 192)) := by
  rcases dec_cases b0 b1 b2 b3 with ⟨h, e⟩ | ⟨h, e⟩ | ⟨h, e⟩ | ⟨h, e⟩ | e <;> rw [e] <;> simp <;> omega
def dc (s : ByteArray) (a : Nat) : Nat × Nat := dec (bt s a) (bt s (a + 1)) (bt s (a + 2)) (bt s (a + 3))
theorem dc_out (s : ByteArray) (a : Nat) (h : ¬ a < s.size) : dc s a = (0, 0) := by
  unfold dc; rw [bt_out s a h]; exact dec0 (by omega) (by omega) (by omega) (by omega)
theorem dc_pos (s : ByteArray) (a : Nat) (h : 0 < (dc s a).2) : a < s.size := by
  by_cases c : a < s.size
  · exact c
  · rw [dc_out s a c] at h; exact absurd h (by simp)
theorem dc_le (s : ByteArray) (a : Nat) (h : a ≤ s.size) : a + (dc s a).2 ≤ s.size ∧ (dc s a).2 ≤ 4 ∧ (dc s a).1 ≤ 1114111 := by
  have hs := dec_shape (bt s a) (bt s (a + 1)) (bt s (a + 2)) (bt s (a + 3))
  have h0 := bt_lt_iff s a
  have h1 := bt_lt_iff s (a + 1)
  have h2 := bt_lt_iff s (a + 2)
  have h3 := bt_lt_iff s (a + 3)
  unfold dc
  omega
theorem dc_inside (s : ByteArray) (a i : Nat) (h : i < (dc s a).2) : (128 ≤ bt s (a + i) ∧ bt s (a + i) < 192) ↔ 0 < i := by
  have hs := dec_shape (bt s a) (bt s (a + 1)) (bt s (a + 2)) (bt s (a + 3))
  unfold dc at h
  rcases hs with hs | ⟨h4, h1, hm, hf, g1, g2, g3⟩
  · omega
  · match i, h with
    | 0, h => simp; omega
    | 1, h => have := g1 h; simp; omega
    | 2, h => have := g2 h; simp; omega
    | 3, h => have := g3 h; simp; omega
    | (n + 4), h => omega
def it (s : ByteArray) : Nat → Nat
  | 0 => 0
  | k + 1 => it s k + (dc s (it s k)).2
theorem it_le (s : ByteArray) : ∀ k, it s k ≤ s.size
  | 0 => Nat.zero_le _
  | k + 1 => (dc_le s (it s k) (it_le s k)).1
def Cnt (s : ByteArray) (N : Nat) : Prop := (∀ j, j < N → 0 < (dc s (it s j)).2) ∧ (dc s (it s N)).2 = 0
theorem it_grow (s : ByteArray) (N : Nat) (h : ∀ j, j < N → 0 < (dc s (it s j)).2) : ∀ k, k ≤ N → ∀ j, j ≤ k → it s j + (k - j) ≤ it s k
  | 0, _, j, hj => by have : j = 0 := by omega
                      subst this; simp
  | k + 1, hk, j, hj => by
    by_cases c : j = k + 1
    · subst c; simp
    · have h1 := it_grow s N h k (by omega) j (by omega)
      have h2 := h k (by omega)
      simp only [it]
      omega
theorem cnt_ex (s : ByteArray) : ∃ N, Cnt s N := by
  by_cases c : ∃ N, Cnt s N
  · exact c
  · exfalso
    have all : ∀ N, ∀ j, j < N → 0 < (dc s (it s j)).2 := by
      intro N
      induction N with
      | zero => intro j h; omega
      | succ N ih =>
        intro j hj
        by_cases e : j = N
        · subst e
          by_cases z : (dc s (it s j)).2 = 0
          · exact absurd ⟨j, ih, z⟩ c
          · omega
        · exact ih j (by omega)
    have h1 := it_grow s (s.size + 1) (all _) (s.size + 1) (Nat.le_refl _) 0 (by omega)
    have h2 := it_le s (s.size + 1)
    omega
theorem cnt_le (s : ByteArray) (N : Nat) (h : Cnt s N) : N ≤ it s N := by
  have := it_grow s N h.1 N (Nat.le_refl _) 0 (by omega); simp [it] at this; omega
def badAt (s : ByteArray) (N : Nat) : Int := if it s N < s.size then (it s N : Int) else -1
def rn (s : ByteArray) (k : Nat) : Nat := (dc s (it s k)).1
theorem rn_le (s : ByteArray) (k : Nat) : rn s k ≤ 1114111 := (dc_le s (it s k) (it_le s k)).2.2
end Go.Proofs.YtcjcdpfjnomehaaGreat.It

/-
  Plain words on runs: a list of styles, one a byte, and its runs: none empty, no two in a row alike; where each run begins; what is laid behind; parts of the list, run by run. No program in it.
-/
namespace Go.Proofs.YtcjcdpfjnomehaaGreat.Ru
set_option linter.unusedSimpArgs false
set_option linter.unusedVariables false
structure Box (p : Prop) : Prop where
  out : p
theorem boxed {p : Prop} (h : p) : Box p := ⟨h⟩
def flat : List (Nat × Int) → List Int
  | [] => []
  | p :: r => List.replicate p.1 p.2 ++ flat r
def enc : List Int → List (Nat × Int)
  | [] => []
  | y :: s => match enc s with
    | [] => [(1, y)]
    | q :: r => if y = q.2 then (q.1 + 1, q.2) :: r else (1, y) :: q :: r
def Can : List (Nat × Int) → Prop
  | [] => True
  | p :: r => 0 < p.1 ∧ (∀ q, r.head? = some q → q.2 ≠ p.2) ∧ Can r
theorem flat_app (a b : List (Nat × Int)) : flat (a ++ b) = flat a ++ flat b := by
  induction a with
  | nil => rfl
  | cons p r ih => simp [flat, ih]
theorem flat_enc (s : List Int) : flat (enc s) = s := by
  induction s with
  | nil => rfl
  | cons y s ih =>
    unfold enc
    split
    · next h => rw [h] at ih; simp [flat] at ih ⊢; exact ih
    · next q r h =>
      rw [h] at ih
      split
      · next e => simp only [flat, List.replicate_succ, List.cons_append] at ih ⊢; rw [ih, e]
      · simp only [flat, List.replicate_succ, List.replicate_zero, List.cons_append, List.nil_append] at ih ⊢; rw [ih]
theorem can_enc (s : List Int) : Can (enc s) := by
  induction s with
  | nil => trivial
  | cons y s ih =>
    unfold enc
    split
    · exact ⟨by simp, by simp, trivial⟩
    · next q r h =>
      rw [h] at ih
      split
      · exact ⟨by simp, ih.2.1, ih.2.2⟩
      · next e => exact ⟨by simp, fun q' h' => by simp at h'; subst h'; exact fun c => e c.symm, ih⟩
theorem enc_rep (l : Nat) (y : Int) (t : List Int) (hl : 0 < l) (h : ∀ q, (enc t).head? = some q → q.2 ≠ y) : enc (List.replicate l y ++ t) = (l, y) :: enc t := by
  induction l with
  | zero => omega
  | succ l ih =>
    rw [List.replicate_succ, List.cons_append]
    by_cases c : l = 0
    · subst c
      simp only [List.replicate_zero, List.nil_append]
      rw [enc]
      split
      · next e => rw [e]
      · next q r e =>
        rw [if_neg (fun e' => h q (by rw [e]; rfl) e'.symm), e]
    · rw [enc, ih (by omega)]
      simp
theorem enc_flat (R : List (Nat × Int)) (h : Can R) : enc (flat R) = R := by
  induction R with
  | nil => rfl
  | cons p r ih =>
    obtain ⟨h1, h2, h3⟩ := h
    have e := ih h3
    show enc (List.replicate p.1 p.2 ++ flat r) = _
    rw [enc_rep p.1 p.2 (flat r) h1 (by rw [e]; exact h2), e]
theorem can_snoc (R : List (Nat × Int)) (p : Nat × Int) (h : Can R) (hp : 0 < p.1) (hl : ∀ q, R.getLast? = some q → q.2 ≠ p.2) : Can (R ++ [p]) := by
  induction R with
  | nil => exact ⟨hp, by simp, trivial⟩
  | cons a r ih =>
    obtain ⟨h1, h2, h3⟩ := h
    refine ⟨h1, ?_, ih h3 (fun q hq => hl q ?_)⟩
    · intro q hq
      cases r with
      | nil => simp at hq; subst hq; exact fun e => hl a (by simp) e.symm
      | cons b r => exact h2 q (by simpa using hq)
    · cases r with
      | nil => simp at hq
      | cons b r => simpa [List.getLast?_cons_cons] using hq
theorem can_unsnoc (R : List (Nat × Int)) (p : Nat × Int) (h : Can (R ++ [p])) : Can R ∧ 0 < p.1 ∧ ∀ q, R.getLast? = some q → q.2 ≠ p.2 := by
  induction R with
  | nil => exact ⟨trivial, h.1, by simp⟩
  | cons a r ih =>
    obtain ⟨h1, h2, h3⟩ := h
    obtain ⟨k1, k2, k3⟩ := ih h3
    refine ⟨⟨h1, fun q hq => h2 q (by cases r <;> simp_all), k1⟩, k2, ?_⟩
    intro q hq
    cases r with
    | nil => simp at hq; subst hq; exact fun e => h2 p (by simp) e.symm
    | cons b r => exact k3 q (by simpa [List.getLast?_cons_cons] using hq)
theorem enc_add_nil (l : Nat) (y : Int) (hl : 0 < l) : enc (List.replicate l y) = [(l, y)] := by
  have := enc_rep l y [] hl (by simp [enc])
  simpa [enc] using this
theorem enc_add_like (s : List Int) (R0 : List (Nat × Int)) (l0 l : Nat) (y : Int) (h : enc s = R0 ++ [(l0, y)]) : enc (s ++ List.replicate l y) = R0 ++ [(l0 + l, y)] := by
  have hc := can_enc s
  rw [h] at hc
  obtain ⟨k1, k2, k3⟩ := can_unsnoc _ _ hc
  have hs := flat_enc s
  rw [h] at hs
  rw [← hs, flat_app]
  have : flat R0 ++ flat [(l0, y)] ++ List.replicate l y = flat (R0 ++ [(l0 + l, y)]) := by
    rw [flat_app]; simp [flat, List.append_assoc, List.replicate_append_replicate]
  rw [this]
  exact enc_flat _ (can_snoc _ _ k1 (by simp at k2 ⊢; omega) k3)
theorem enc_add_new (s : List Int) (l : Nat) (y : Int) (hl : 0 < l) (h : ∀ q, (enc s).getLast? = some q → q.2 ≠ y) : enc (s ++ List.replicate l y) = enc s ++ [(l, y)] := by
  have hs := flat_enc s
  have : s ++ List.replicate l y = flat (enc s ++ [(l, y)]) := by rw [flat_app, hs]; simp [flat]
  rw [this]
  exact enc_flat _ (can_snoc _ _ (can_enc s) hl h)
def sm : List (Nat × Int) → Nat
  | [] => 0
  | p :: r => p.1 + sm r
theorem sm_flat (R : List (Nat × Int)) : (flat R).length = sm R := by
  induction R with
  | nil => rfl
  | cons p r ih => simp [flat, sm, ih]
theorem sm_enc (s : List Int) : sm (enc s) = s.length := by rw [← sm_flat, flat_enc]
theorem sm_app (a b : List (Nat × Int)) : sm (a ++ b) = sm a + sm b := by
  induction a with
  | nil => simp [sm]
  | cons p r ih => simp [sm, ih]; omega
theorem can_len (R : List (Nat × Int)) (h : Can R) : R.length ≤ sm R := by
  induction R with
  | nil => simp [sm]
  | cons p r ih => obtain ⟨h1, _, h3⟩ := h; have := ih h3; simp [sm]; omega
theorem enc_len (s : List Int) : (enc s).length ≤ s.length := by have := can_len _ (can_enc s); rw [sm_enc] at this; exact this
theorem enc_nil (s : List Int) : (enc s).length = 0 ↔ s.length = 0 := by
  constructor
  · intro h
    have h' : enc s = [] := List.length_eq_zero_iff.1 h
    have := flat_enc s
    rw [h'] at this
    simp [← this, flat]
  · intro h; have := enc_len s; omega
def Bg (R : List (Nat × Int)) (k : Nat) : Nat := sm (R.take k)
def Ys (R : List (Nat × Int)) (k : Nat) : Int := (R.getD k (0, 0)).2
theorem Bg_zero (R : List (Nat × Int)) : Bg R 0 = 0 := rfl
theorem Bg_cons (p : Nat × Int) (r : List (Nat × Int)) (k : Nat) : Bg (p :: r) (k + 1) = p.1 + Bg r k := rfl
theorem Ys_cons (p : Nat × Int) (r : List (Nat × Int)) (k : Nat) : Ys (p :: r) (k + 1) = Ys r k := by simp [Ys]
theorem Bg_all (R : List (Nat × Int)) (k : Nat) (h : R.length ≤ k) : Bg R k = sm R := by unfold Bg; rw [List.take_of_length_le h]
theorem Bg_step (R : List (Nat × Int)) (k : Nat) (h : k < R.length) (hc : Can R) : Bg R k < Bg R (k + 1) := by
  induction R generalizing k with
  | nil => simp at h
  | cons p r ih =>
    obtain ⟨h1, _, h3⟩ := hc
    cases k with
    | zero => rw [Bg_cons]; simp [Bg, sm]; omega
    | succ k => rw [Bg_cons, Bg_cons]; have := ih k (by simpa using h) h3; omega
theorem Bg_mono (R : List (Nat × Int)) (hc : Can R) (j k : Nat) (h : j ≤ k) : Bg R j ≤ Bg R k := by
  induction k with
  | zero => have : j = 0 := by omega
            subst this; exact Nat.le_refl _
  | succ k ih =>
    by_cases c : j = k + 1
    · subst c; exact Nat.le_refl _
    · have h1 := ih (by omega)
      by_cases d : k < R.length
      · have := Bg_step R k d hc; omega
      · rw [Bg_all R (k + 1) (by omega)]; rw [Bg_all R k (by omega)] at h1; exact h1
theorem Bg_le (R : List (Nat × Int)) (hc : Can R) (k : Nat) : Bg R k ≤ sm R := by
  by_cases d : k ≤ R.length
  · have := Bg_mono R hc k R.length d; rw [Bg_all R R.length (Nat.le_refl _)] at this; exact this
  · rw [Bg_all R k (by omega)]; exact Nat.le_refl _
theorem get_of (R : List (Nat × Int)) (k j : Nat) (hk : k < R.length) (h1 : Bg R k ≤ j) (h2 : j < Bg R (k + 1)) : (flat R)[j]? = some (Ys R k) := by
  induction R generalizing k j with
  | nil => simp at hk
  | cons p r ih =>
    show (List.replicate p.1 p.2 ++ flat r)[j]? = _
    cases k with
    | zero =>
      rw [Bg_cons] at h2
      simp only [Bg, List.take_zero, sm, Nat.add_zero] at h2
      rw [List.getElem?_append_left (by simpa using h2)]
      simp [Ys, List.getElem?_replicate, h2]
    | succ k =>
      rw [Bg_cons] at h1 h2
      rw [List.getElem?_append_right (by simp; omega), Ys_cons]
      exact ih k _ (by simpa using hk) (by simp; omega) (by simp; omega)
theorem Ys_next (R : List (Nat × Int)) (hc : Can R) (k : Nat) (h : k + 1 < R.length) : Ys R (k + 1) ≠ Ys R k := by
  induction R generalizing k with
  | nil => simp at h
  | cons p r ih =>
    obtain ⟨_, h2, h3⟩ := hc
    cases k with
    | zero =>
      cases r with
      | nil => simp at h
      | cons q r => have := h2 q rfl; simpa [Ys] using this
    | succ k => rw [Ys_cons, Ys_cons]; exact ih h3 k (by simpa using h)
theorem Ys_in (s : List Int) (k : Nat) (h : k < (enc s).length) : Ys (enc s) k ∈ s := by
  have h1 := Bg_step _ k h (can_enc s)
  have := get_of (enc s) k (Bg (enc s) k) h (Nat.le_refl _) h1
  rw [flat_enc] at this
  exact List.mem_of_getElem? this
def sub (s : List Int) (a b : Nat) : List Int := (s.drop a).take (b - a)
theorem sub_get (s : List Int) (a b j : Nat) : (sub s a b)[j]? = if j < b - a then s[a + j]? else none := by
  unfold sub
  rw [List.getElem?_take]
  split <;> simp [List.getElem?_drop]
theorem sub_len (s : List Int) (a b : Nat) (h : b ≤ s.length) : (sub s a b).length = b - a := by unfold sub; simp; omega
theorem sub_none (s : List Int) (a b : Nat) (h : b ≤ a) : sub s a b = [] := by unfold sub; simp [Nat.sub_eq_zero_of_le h]
theorem sub_zero (s : List Int) (b : Nat) : sub s 0 b = s.take b := by simp [sub]
theorem sub_all (s : List Int) (a : Nat) : sub s a s.length = s.drop a := by unfold sub; rw [List.take_of_length_le (by simp)]
theorem sub_mem (s : List Int) (a b : Nat) (y : Int) (h : y ∈ sub s a b) : y ∈ s := List.mem_of_mem_drop (List.mem_of_mem_take h)
theorem enc_head (t : List Int) (q : Nat × Int) (h : (enc t).head? = some q) : t[0]? = some q.2 := by
  have e := flat_enc t
  have hc := can_enc t
  rw [← e]
  generalize enc t = R at *
  cases R with
  | nil => simp at h
  | cons p r =>
    simp at h
    subst h
    have := hc.1
    obtain ⟨m, hm⟩ : ∃ m, p.1 = m + 1 := ⟨p.1 - 1, by omega⟩
    simp [flat, hm, List.replicate_succ]
theorem rem_step (s : List Int) (q a b : Nat) (hq : q < (enc s).length) (h1 : Bg (enc s) q ≤ a) (h2 : a < Bg (enc s) (q + 1)) (hab : a < b) (hb : b ≤ s.length) :
    enc (sub s a b) = (min (Bg (enc s) (q + 1)) b - a, Ys (enc s) q) :: enc (sub s (min (Bg (enc s) (q + 1)) b) b) := by
  have hget := fun j (k1 : Bg (enc s) q ≤ j) (k2 : j < Bg (enc s) (q + 1)) => get_of (enc s) q j hq k1 k2
  rw [flat_enc] at hget
  have hnx : Bg (enc s) (q + 1) < b → s[Bg (enc s) (q + 1)]? = some (Ys (enc s) (q + 1)) ∧ Ys (enc s) (q + 1) ≠ Ys (enc s) q := by
    intro hl
    have hq1 : q + 1 < (enc s).length := by
      by_cases c : q + 1 < (enc s).length
      · exact c
      · rw [Bg_all _ _ (by omega), sm_enc] at hl; omega
    have := get_of (enc s) (q + 1) _ hq1 (Nat.le_refl _) (Bg_step _ _ hq1 (can_enc s))
    rw [flat_enc] at this
    exact ⟨this, Ys_next _ (can_enc s) q hq1⟩
  generalize Bg (enc s) (q + 1) = E at *
  generalize Ys (enc s) q = y at *
  have key : sub s a b = List.replicate (min E b - a) y ++ sub s (min E b) b := by
    apply List.ext_getElem?
    intro j
    rw [sub_get]
    by_cases c : j < min E b - a
    · rw [List.getElem?_append_left (by simpa using c), if_pos (by omega), hget (a + j) (by omega) (by omega)]
      simp [List.getElem?_replicate, c]
    · rw [List.getElem?_append_right (by simp; omega), sub_get]
      simp only [List.length_replicate]
      by_cases d : j < b - a
      · rw [if_pos d, if_pos (by omega)]
        congr 1
        omega
      · rw [if_neg d, if_neg (by omega)]
  rw [key]
  refine enc_rep _ _ _ (by omega) ?_
  intro p hp
  have hh := enc_head _ _ hp
  rw [sub_get] at hh
  split at hh
  · next c =>
    have hE : E < b := by omega
    have hm : min E b = E := by omega
    obtain ⟨g1, g2⟩ := hnx hE
    rw [hm, Nat.add_zero, g1] at hh
    injection hh with hh
    rw [← hh]; exact g2
  · cases hh
abbrev X := { x : Nat × Nat × Int // x.1 ≤ 65536 ∧ (0 < x.2.1 ∧ x.2.1 ≤ 65536) ∧ 0 ≤ x.2.2 ∧ x.2.2 < 32 }
def mkX (a l : Nat) (y : Int) : X := if h : a ≤ 65536 ∧ (0 < l ∧ l ≤ 65536) ∧ 0 ≤ y ∧ y < 32 then ⟨(a, l, y), h⟩ else ⟨(0, 1, 0), by simp⟩
theorem mkX_val {a l : Nat} {y : Int} (h : a ≤ 65536 ∧ (0 < l ∧ l ≤ 65536) ∧ 0 ≤ y ∧ y < 32) : (mkX a l y).1 = (a, l, y) := by unfold mkX; rw [dif_pos h]
def giv : Nat → List (Nat × Int) → List X
  | _, [] => []
  | a, p :: r => mkX a p.1 p.2 :: giv (a + p.1) r
theorem giv_len (a : Nat) (R : List (Nat × Int)) : (giv a R).length = R.length := by
  induction R generalizing a with
  | nil => rfl
  | cons p r ih => simp [giv, ih]
def rof (l : List X) : List (Nat × Int) := l.map fun x => x.1.2
theorem rof_snoc (l : List X) (x : X) : rof (l ++ [x]) = rof l ++ [x.1.2] := by simp [rof]
theorem rof_len (l : List X) : (rof l).length = l.length := by simp [rof]
def fl (l : List X) : List Int := flat (rof l)
theorem fl_snoc (l : List X) (x : X) : fl (l ++ [x]) = fl l ++ List.replicate x.1.2.1 x.1.2.2 := by unfold fl; rw [rof_snoc, flat_app]; simp [flat]
theorem fl_len (l : List X) : (fl l).length ≤ l.length * 65536 := by
  induction l with
  | nil => simp [fl, rof, flat]
  | cons x r ih =>
    have := x.2
    simp only [fl, rof, List.map_cons, flat, List.length_append, List.length_replicate, List.length_cons] at ih ⊢
    omega
theorem fl_ok (l : List X) : ∀ y ∈ fl l, 0 ≤ y ∧ y < 32 := by
  induction l with
  | nil => simp [fl, rof, flat]
  | cons x r ih =>
    have := x.2
    intro y hy
    simp only [fl, rof, List.map_cons, flat, List.mem_append, List.mem_replicate] at ih hy
    rcases hy with ⟨_, rfl⟩ | hy
    · exact this.2.2
    · exact ih y hy
def Sok (s : List Int) : Prop := ∀ y ∈ s, 0 ≤ y ∧ y < 32
theorem rof_giv (a : Nat) (R : List (Nat × Int)) (hc : Can R) (ha : a + sm R ≤ 65536) (hs : Sok (flat R)) : rof (giv a R) = R := by
  induction R generalizing a with
  | nil => rfl
  | cons p r ih =>
    obtain ⟨h1, h2, h3⟩ := hc
    simp only [sm] at ha
    have hp : 0 ≤ p.2 ∧ p.2 < 32 := hs p.2 (by simp [flat]; exact Or.inl (by omega))
    simp only [giv, rof, List.map_cons]
    rw [mkX_val ⟨by omega, ⟨h1, by omega⟩, hp⟩]
    have := ih (a + p.1) h3 (by omega) (fun y hy => hs y (by simp [flat]; exact Or.inr hy))
    unfold rof at this
    rw [this]
theorem sok_sub {s : List Int} (h : Sok s) (a b : Nat) : Sok (sub s a b) := fun y hy => h y (sub_mem s a b y hy)
def gv (s : List Int) (a b : Nat) : List X := giv a (enc (sub s a b))
theorem gv_rof {s : List Int} (h : Sok s) (a b : Nat) (hab : a ≤ b) (hb : b ≤ s.length) (hl : s.length ≤ 65536) : rof (gv s a b) = enc (sub s a b) := by
  unfold gv
  refine rof_giv a _ (can_enc _) ?_ ?_
  · rw [sm_enc, sub_len s a b hb]; omega
  · rw [flat_enc]; exact sok_sub h a b
theorem gv_fl {s : List Int} (h : Sok s) (a b : Nat) (hab : a ≤ b) (hb : b ≤ s.length) (hl : s.length ≤ 65536) : fl (gv s a b) = sub s a b := by
  unfold fl; rw [gv_rof h a b hab hb hl, flat_enc]
theorem gv_len (s : List Int) (a b : Nat) (hb : b ≤ s.length) : (gv s a b).length ≤ s.length := by
  unfold gv; rw [giv_len]; have := enc_len (sub s a b); rw [sub_len s a b hb] at this; omega
theorem gv_end (s : List Int) (a b : Nat) (h : b ≤ a) : gv s a b = [] := by unfold gv; rw [sub_none s a b h]; rfl
theorem gv_step (s : List Int) (q a b : Nat) (hq : q < (enc s).length) (h1 : Bg (enc s) q ≤ a) (h2 : a < Bg (enc s) (q + 1)) (hab : a < b) (hb : b ≤ s.length) :
    gv s a b = mkX a (min (Bg (enc s) (q + 1)) b - a) (Ys (enc s) q) :: gv s (min (Bg (enc s) (q + 1)) b) b := by
  have h := rem_step s q a b hq h1 h2 hab hb
  show giv a (enc (sub s a b)) = _ :: giv _ (enc _)
  rw [h]
  show mkX _ _ _ :: giv (a + _) _ = _
  have : a + (min (Bg (enc s) (q + 1)) b - a) = min (Bg (enc s) (q + 1)) b := by omega
  rw [this]
end Go.Proofs.YtcjcdpfjnomehaaGreat.Ru
