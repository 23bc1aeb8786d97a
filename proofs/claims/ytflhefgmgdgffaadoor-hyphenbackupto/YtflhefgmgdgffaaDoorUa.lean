/-
  Plain arithmetic of texts as bytes: the rune with which the bytes at a place begin, the places that a text's runes begin at, one behind the other, and how many there are. No program in it.
-/
import Derived.Test.YtflhefgmgdgffaaDoorRows
import Derived.WalkKit
namespace Go.Proofs.YtflhefgmgdgffaaDoor
set_option linter.unusedSimpArgs false
set_option linter.unusedVariables false

/-- A fact that the walk shall not look into. -/
structure Box (p : Prop) : Prop where
  out : p
theorem boxed {p : Prop} (h : p) : Box p := ⟨h⟩

/-- The byte at a place; 256 where there is none. -/
def bt (s : ByteArray) (k : Nat) : Nat := if h : k < s.size then s[k].toNat else 256
theorem bt_in (s : ByteArray) (k : Nat) (h : k < s.size) : bt s k = s[k].toNat := by simp [bt, h]
theorem bt_out (s : ByteArray) (k : Nat) (h : ¬ k < s.size) : bt s k = 256 := by simp [bt, h]
theorem bt_lt (s : ByteArray) (k : Nat) (h : k < s.size) : bt s k < 256 := by
  rw [bt_in s k h]; exact s[k].toNat_lt
theorem bt_lt_iff (s : ByteArray) (k : Nat) : bt s k < 256 ↔ k < s.size := by
  constructor
  · intro h
    by_cases c : k < s.size
    · exact c
    · rw [bt_out s k c] at h; omega
  · exact bt_lt s k

/-- The rune that four bytes begin with, and how many of them it has; 0 and 0: none. -/
def dec (b0 b1 b2 b3 : Nat) : Nat × Nat :=
  if b0 < 128 then (b0, 1)
  else if (192 ≤ b0 ∧ b0 < 224) ∧ (128 ≤ b1 ∧ b1 < 192) ∧ 128 ≤ (b0 - 192) * 64 + (b1 - 128) then ((b0 - 192) * 64 + (b1 - 128), 2)
  else if (224 ≤ b0 ∧ b0 < 240) ∧ (128 ≤ b1 ∧ b1 < 192) ∧ (128 ≤ b2 ∧ b2 < 192) ∧ 2048 ≤ (b0 - 224) * 4096 + (b1 - 128) * 64 + (b2 - 128) ∧
      ((b0 - 224) * 4096 + (b1 - 128) * 64 + (b2 - 128) < 55296 ∨ 57343 < (b0 - 224) * 4096 + (b1 - 128) * 64 + (b2 - 128)) then ((b0 - 224) * 4096 + (b1 - 128) * 64 + (b2 - 128), 3)
  else if (240 ≤ b0 ∧ b0 < 248) ∧ (128 ≤ b1 ∧ b1 < 192) ∧ (128 ≤ b2 ∧ b2 < 192) ∧ (128 ≤ b3 ∧ b3 < 192) ∧ 65536 ≤ (b0 - 240) * 262144 + (b1 - 128) * 4096 + (b2 - 128) * 64 + (b3 - 128) ∧
      (b0 - 240) * 262144 + (b1 - 128) * 4096 + (b2 - 128) * 64 + (b3 - 128) ≤ 1114111 then ((b0 - 240) * 262144 + (b1 - 128) * 4096 + (b2 - 128) * 64 + (b3 - 128), 4)
  else (0, 0)

/-- The ways in which four bytes are read. -/
theorem dec_cases (b0 b1 b2 b3 : Nat) :
    (b0 < 128 ∧ dec b0 b1 b2 b3 = (b0, 1)) ∨
    (((192 ≤ b0 ∧ b0 < 224) ∧ (128 ≤ b1 ∧ b1 < 192) ∧ 128 ≤ (b0 - 192) * 64 + (b1 - 128)) ∧ dec b0 b1 b2 b3 = ((b0 - 192) * 64 + (b1 - 128), 2)) ∨
    (((224 ≤ b0 ∧ b0 < 240) ∧ (128 ≤ b1 ∧ b1 < 192) ∧ (128 ≤ b2 ∧ b2 < 192) ∧ 2048 ≤ (b0 - 224) * 4096 + (b1 - 128) * 64 + (b2 - 128) ∧
      ((b0 - 224) * 4096 + (b1 - 128) * 64 + (b2 - 128) < 55296 ∨ 57343 < (b0 - 224) * 4096 + (b1 - 128) * 64 + (b2 - 128))) ∧ dec b0 b1 b2 b3 = ((b0 - 224) * 4096 + (b1 - 128) * 64 + (b2 - 128), 3)) ∨
    (((240 ≤ b0 ∧ b0 < 248) ∧ (128 ≤ b1 ∧ b1 < 192) ∧ (128 ≤ b2 ∧ b2 < 192) ∧ (128 ≤ b3 ∧ b3 < 192) ∧ 65536 ≤ (b0 - 240) * 262144 + (b1 - 128) * 4096 + (b2 - 128) * 64 + (b3 - 128) ∧
      (b0 - 240) * 262144 + (b1 - 128) * 4096 + (b2 - 128) * 64 + (b3 - 128) ≤ 1114111) ∧ dec b0 b1 b2 b3 = ((b0 - 240) * 262144 + (b1 - 128) * 4096 + (b2 - 128) * 64 + (b3 - 128), 4)) ∨
    (dec b0 b1 b2 b3 = (0, 0)) := by
  unfold dec
  split
  · exact Or.inl ⟨by assumption, rfl⟩
  split
  · exact Or.inr (Or.inl ⟨by assumption, rfl⟩)
  split
  · exact Or.inr (Or.inr (Or.inl ⟨by assumption, rfl⟩))
  split
  · exact Or.inr (Or.inr (Or.inr (Or.inl ⟨by assumption, rfl⟩)))
  · exact Or.inr (Or.inr (Or.inr (Or.inr rfl)))

theorem dec1 {b0 b1 b2 b3 : Nat} (h : b0 < 128) : dec b0 b1 b2 b3 = (b0, 1) := by unfold dec; rw [if_pos h]
theorem dec2 {b0 b1 b2 b3 : Nat} (h1 : 192 ≤ b0 ∧ b0 < 224) (h2 : 128 ≤ b1 ∧ b1 < 192) (h : 128 ≤ (b0 - 192) * 64 + (b1 - 128)) : dec b0 b1 b2 b3 = ((b0 - 192) * 64 + (b1 - 128), 2) := by
  unfold dec; rw [if_neg (by omega), if_pos ⟨h1, h2, h⟩]
theorem dec3 {b0 b1 b2 b3 : Nat} (h1 : 224 ≤ b0 ∧ b0 < 240) (h2 : 128 ≤ b1 ∧ b1 < 192) (h3 : 128 ≤ b2 ∧ b2 < 192) (h : 2048 ≤ (b0 - 224) * 4096 + (b1 - 128) * 64 + (b2 - 128))
    (h' : (b0 - 224) * 4096 + (b1 - 128) * 64 + (b2 - 128) < 55296 ∨ 57343 < (b0 - 224) * 4096 + (b1 - 128) * 64 + (b2 - 128)) : dec b0 b1 b2 b3 = ((b0 - 224) * 4096 + (b1 - 128) * 64 + (b2 - 128), 3) := by
  unfold dec; rw [if_neg (by omega), if_neg (by omega), if_pos ⟨h1, h2, h3, h, h'⟩]
theorem dec4 {b0 b1 b2 b3 : Nat} (h1 : 240 ≤ b0 ∧ b0 < 248) (h2 : 128 ≤ b1 ∧ b1 < 192) (h3 : 128 ≤ b2 ∧ b2 < 192) (h4 : 128 ≤ b3 ∧ b3 < 192)
    (h : 65536 ≤ (b0 - 240) * 262144 + (b1 - 128) * 4096 + (b2 - 128) * 64 + (b3 - 128)) (h' : (b0 - 240) * 262144 + (b1 - 128) * 4096 + (b2 - 128) * 64 + (b3 - 128) ≤ 1114111) :
    dec b0 b1 b2 b3 = ((b0 - 240) * 262144 + (b1 - 128) * 4096 + (b2 - 128) * 64 + (b3 - 128), 4) := by
  unfold dec; rw [if_neg (by omega), if_neg (by omega), if_neg (by omega), if_pos ⟨h1, h2, h3, h4, h, h'⟩]
theorem dec0 {b0 b1 b2 b3 : Nat} (h1 : ¬ b0 < 128) (h2 : ¬ ((192 ≤ b0 ∧ b0 < 224) ∧ (128 ≤ b1 ∧ b1 < 192) ∧ 128 ≤ (b0 - 192) * 64 + (b1 - 128)))
    (h3 : ¬ ((224 ≤ b0 ∧ b0 < 240) ∧ (128 ≤ b1 ∧ b1 < 192) ∧ (128 ≤ b2 ∧ b2 < 192) ∧ 2048 ≤ (b0 - 224) * 4096 + (b1 - 128) * 64 + (b2 - 128) ∧
      ((b0 - 224) * 4096 + (b1 - 128) * 64 + (b2 - 128) < 55296 ∨ 57343 < (b0 - 224) * 4096 + (b1 - 128) * 64 + (b2 - 128))))
    (h4 : ¬ ((240 ≤ b0 ∧ b0 < 248) ∧ (128 ≤ b1 ∧ b1 < 192) ∧ (128 ≤ b2 ∧ b2 < 192) ∧ (128 ≤ b3 ∧ b3 < 192) ∧ 65536 ≤ (b0 - 240) * 262144 + (b1 - 128) * 4096 + (b2 - 128) * 64 + (b3 - 128) ∧
      (b0 - 240) * 262144 + (b1 - 128) * 4096 + (b2 - 128) * 64 + (b3 - 128) ≤ 1114111)) : dec b0 b1 b2 b3 = (0, 0) := by
  unfold dec; rw [if_neg h1, if_neg h2, if_neg h3, if_neg h4]

/-- Of a rune's bytes the first is no byte from 128 to 191, the others are. -/
theorem dec_shape (b0 b1 b2 b3 : Nat) : ((dec b0 b1 b2 b3).2 = 0 ∧ (dec b0 b1 b2 b3).1 = 0) ∨ ((dec b0 b1 b2 b3).2 ≤ 4 ∧ 1 ≤ (dec b0 b1 b2 b3).2 ∧ (dec b0 b1 b2 b3).1 ≤ 1114111 ∧ (b0 < 128 ∨ (192 ≤ b0 ∧ b0 < 248)) ∧
    (1 < (dec b0 b1 b2 b3).2 → 128 ≤ b1 ∧ b1 < 192) ∧ (2 < (dec b0 b1 b2 b3).2 → 128 ≤ b2 ∧ b2 < 192) ∧ (3 < (dec b0 b1 b2 b3).2 → 128 ≤ b3 ∧ b3 < 192)) := by
  rcases dec_cases b0 b1 b2 b3 with ⟨h, e⟩ | ⟨h, e⟩ | ⟨h, e⟩ | ⟨h, e⟩ | e <;> rw [e] <;> simp <;> omega

/-- What comes behind a rune's bytes is not looked at. -/
theorem dec_same (b0 b1 b2 b3 c0 c1 c2 c3 : Nat) (h0 : 0 < (dec b0 b1 b2 b3).2) (e0 : c0 = b0) (e1 : 1 < (dec b0 b1 b2 b3).2 → c1 = b1) (e2 : 2 < (dec b0 b1 b2 b3).2 → c2 = b2) (e3 : 3 < (dec b0 b1 b2 b3).2 → c3 = b3) :
    dec c0 c1 c2 c3 = dec b0 b1 b2 b3 := by
  subst e0
  rcases dec_cases c0 b1 b2 b3 with ⟨h, e⟩ | ⟨h, e⟩ | ⟨h, e⟩ | ⟨h, e⟩ | e <;> rw [e] at h0 e1 e2 e3 ⊢ <;> simp at h0 e1 e2 e3
  · exact dec1 h
  · rw [e1]; exact dec2 h.1 h.2.1 h.2.2
  · rw [e1, e2]; exact dec3 h.1 h.2.1 h.2.2.1 h.2.2.2.1 h.2.2.2.2
  · rw [e1, e2, e3]; exact dec4 h.1 h.2.1 h.2.2.1 h.2.2.2.1 h.2.2.2.2.1 h.2.2.2.2.2

/-- The rune that begins at a place of a text, and how many bytes it has. -/
def dc (s : ByteArray) (a : Nat) : Nat × Nat := dec (bt s a) (bt s (a + 1)) (bt s (a + 2)) (bt s (a + 3))
theorem dc_out (s : ByteArray) (a : Nat) (h : ¬ a < s.size) : dc s a = (0, 0) := by
  unfold dc; rw [bt_out s a h]; exact dec0 (by omega) (by omega) (by omega) (by omega)
theorem dc_pos (s : ByteArray) (a : Nat) (h : 0 < (dc s a).2) : a < s.size := by
  by_cases c : a < s.size
  · exact c
  · rw [dc_out s a c] at h; exact absurd h (by simp)
/-- A rune's bytes lie within the text. -/
theorem dc_le (s : ByteArray) (a : Nat) (h : a ≤ s.size) : a + (dc s a).2 ≤ s.size ∧ (dc s a).2 ≤ 4 ∧ (dc s a).1 ≤ 1114111 := by
  have hs := dec_shape (bt s a) (bt s (a + 1)) (bt s (a + 2)) (bt s (a + 3))
  have h0 := bt_lt_iff s a
  have h1 := bt_lt_iff s (a + 1)
  have h2 := bt_lt_iff s (a + 2)
  have h3 := bt_lt_iff s (a + 3)
  unfold dc
  omega
/-- A rune is read the same wherever its bytes stand. -/
theorem dc_same (s t : ByteArray) (a c : Nat) (h0 : 0 < (dc s a).2) (h : ∀ i, i < (dc s a).2 → bt t (c + i) = bt s (a + i)) : dc t c = dc s a := by
  unfold dc at *
  exact dec_same _ _ _ _ _ _ _ _ h0 (h 0 h0) (fun k => h 1 k) (fun k => h 2 k) (fun k => h 3 k)
/-- No rune begins at a byte from 128 to 191; a rune's other bytes are such. -/
theorem dc_inside (s : ByteArray) (a i : Nat) (h : i < (dc s a).2) : (128 ≤ bt s (a + i) ∧ bt s (a + i) < 192) ↔ 0 < i := by
  have hs := dec_shape (bt s a) (bt s (a + 1)) (bt s (a + 2)) (bt s (a + 3))
  unfold dc at h
  rcases hs with hs | ⟨h4, h1, hm, hf, g1, g2, g3⟩
  · omega
  · match i, h with
    | 0, h => simp; omega
    | 1, h => have := g1 h; simp; omega
    | 2, h => have := g2 h; simp; omega
    | 3, h => have := g3 h; simp; omega
    | (n + 4), h => omega

/-- Where the rune number k begins, going from rune to rune; the place stays where none begins. -/
def it (s : ByteArray) : Nat → Nat
  | 0 => 0
  | k + 1 => it s k + (dc s (it s k)).2
theorem it_le (s : ByteArray) : ∀ k, it s k ≤ s.size
  | 0 => Nat.zero_le _
  | k + 1 => (dc_le s (it s k) (it_le s k)).1

/-- A text has N runes, till its end or the first byte with which none begins. -/
def Cnt (s : ByteArray) (N : Nat) : Prop := (∀ j, j < N → 0 < (dc s (it s j)).2) ∧ (dc s (it s N)).2 = 0

theorem it_grow (s : ByteArray) (N : Nat) (h : ∀ j, j < N → 0 < (dc s (it s j)).2) : ∀ k, k ≤ N → ∀ j, j ≤ k → it s j + (k - j) ≤ it s k
  | 0, _, j, hj => by have : j = 0 := by omega
                      subst this; simp
  | k + 1, hk, j, hj => by
    by_cases c : j = k + 1
    · subst c; simp
    · have h1 := it_grow s N h k (by omega) j (by omega)
      have h2 := h k (by omega)
      simp only [it]
      omega

theorem cnt_ex (s : ByteArray) : ∃ N, Cnt s N := by
  by_cases c : ∃ N, Cnt s N
  · exact c
  · exfalso
    have all : ∀ N, ∀ j, j < N → 0 < (dc s (it s j)).2 := by
      intro N
      induction N with
      | zero => intro j h; omega
      | succ N ih =>
        intro j hj
        by_cases e : j = N
        · subst e
          by_cases z : (dc s (it s j)).2 = 0
          · exact absurd ⟨j, ih, z⟩ c
          · omega
        · exact ih j (by omega)
    have h1 := it_grow s (s.size + 1) (all _) (s.size + 1) (Nat.le_refl _) 0 (by omega)
    have h2 := it_le s (s.size + 1)
    omega
theorem cnt_one (s : ByteArray) (N M : Nat) (h : Cnt s N) (g : Cnt s M) : N = M := by
  rcases Nat.lt_trichotomy N M with c | c | c
  · have := g.1 N c; have := h.2; omega
  · exact c
  · have := h.1 M c; have := g.2; omega
theorem cnt_le (s : ByteArray) (N : Nat) (h : Cnt s N) : N ≤ it s N := by
  have := it_grow s N h.1 N (Nat.le_refl _) 0 (by omega); simp [it] at this; omega

/-- The place of the first wrong byte, or -1. -/
def badAt (s : ByteArray) (N : Nat) : Int := if it s N < s.size then (it s N : Int) else -1

/-- Rune number k. -/
def rn (s : ByteArray) (k : Nat) : Nat := (dc s (it s k)).1
theorem rn_le (s : ByteArray) (k : Nat) : rn s k ≤ 1114111 := (dc_le s (it s k) (it_le s k)).2.2
end Go.Proofs.YtflhefgmgdgffaaDoor
