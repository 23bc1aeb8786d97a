/-
  Items in plain words: items as they lie in memory, which items may be a paragraph's, at which a line may end, and the items that a text in styles is made of, rune by rune. No program in it.
-/
import Derived.Test.YtkmeeblkckfepabGreatEa
namespace Go.Proofs.YtkmeeblkckfepabGreat
open Go.RowKit
set_option linter.unusedSimpArgs false
set_option linter.unusedVariables false

structure Itm where
  k : Int
  w : Int
  st : Int
  sh : Int
  fill : Bool
  c : Int
  flag : Bool
  fr : Int
  to : Int
def Itm.zero : Itm := ⟨0, 0, 0, 0, false, 0, false, 0, 0⟩
def Itm.cells (x : Itm) : List Value := [.int .i64 x.k, .int .i64 x.w, .int .i64 x.st, .int .i64 x.sh, .bool x.fill, .int .i64 x.c, .bool x.flag, .int .i64 x.fr, .int .i64 x.to]
def Itm.val (x : Itm) : Value := .agg #[.int .i64 x.k, .int .i64 x.w, .int .i64 x.st, .int .i64 x.sh, .bool x.fill, .int .i64 x.c, .bool x.flag, .int .i64 x.fr, .int .i64 x.to]
/-- Are two items alike? -/
def Itm.like (a b : Itm) : Bool := (a.k == b.k) && (a.w == b.w) && (a.st == b.st) && (a.sh == b.sh) && (a.fill == b.fill) && (a.c == b.c) && (a.flag == b.flag) && (a.fr == b.fr) && (a.to == b.to)
theorem like_iff (a b : Itm) : a.like b = true ↔ a = b := by
  obtain ⟨a1, a2, a3, a4, a5, a6, a7, a8, a9⟩ := a
  obtain ⟨b1, b2, b3, b4, b5, b6, b7, b8, b9⟩ := b
  simp only [Itm.like, Bool.and_eq_true, beq_iff_eq, Itm.mk.injEq]
  constructor
  · rintro ⟨⟨⟨⟨⟨⟨⟨⟨h1, h2⟩, h3⟩, h4⟩, h5⟩, h6⟩, h7⟩, h8⟩, h9⟩; exact ⟨h1, h2, h3, h4, h5, h6, h7, h8, h9⟩
  · rintro ⟨h1, h2, h3, h4, h5, h6, h7, h8, h9⟩; exact ⟨⟨⟨⟨⟨⟨⟨⟨h1, h2⟩, h3⟩, h4⟩, h5⟩, h6⟩, h7⟩, h8⟩, h9⟩
/-- The cells of items. -/
def ics (L : List Itm) : List Value := L.flatMap Itm.cells
theorem ics_app (L M : List Itm) : ics (L ++ M) = ics L ++ ics M := by simp [ics]
theorem ics_one (x : Itm) : ics [x] = x.cells := by simp [ics]
theorem ics_len (L : List Itm) : (ics L).length = L.length * 9 := by
  induction L with
  | nil => rfl
  | cons x r ih =>
    have : ics (x :: r) = x.cells ++ ics r := by simp [ics]
    rw [this, List.length_append, ih]
    simp [Itm.cells]; omega
theorem ics_cell (L : List Itm) : ∀ u ∈ ics L, u.oneCell' = true := by
  intro u hu
  simp only [ics, List.mem_flatMap] at hu
  obtain ⟨x, _, hx⟩ := hu
  simp [Itm.cells] at hx
  rcases hx with rfl | rfl | rfl | rfl | rfl | rfl | rfl | rfl | rfl <;> rfl
theorem ics_get (L : List Itm) (i j : Nat) (hi : i < L.length) (hj : j < 9) : (ics L)[i * 9 + j]? = ((L.getD i Itm.zero).cells)[j]? := by
  induction L generalizing i with
  | nil => simp at hi
  | cons x r ih =>
    have e : ics (x :: r) = x.cells ++ ics r := by simp [ics]
    have hl : x.cells.length = 9 := rfl
    rw [e]
    cases i with
    | zero => rw [List.getElem?_append_left (by omega)]; simp
    | succ i =>
      rw [List.getElem?_append_right (by omega), hl, show (i + 1) * 9 + j - 9 = i * 9 + j by omega, ih i (by simpa using hi)]
      simp
/-- Items as they lie in memory, in blocks that S names. -/
def ItsAt (S : Nat → Prop) (w : World) (ao : Option Addr) (n : Nat) (I : Nat → Itm) : Prop := ∀ i, i < n → ∃ b off, ao = some ⟨b, off, none⟩ ∧ S b ∧
    w.cell? ⟨b, off + i * 9, none⟩ = some (.int .i64 (I i).k) ∧ w.cell? ⟨b, off + i * 9 + 1, none⟩ = some (.int .i64 (I i).w) ∧ w.cell? ⟨b, off + i * 9 + 2, none⟩ = some (.int .i64 (I i).st) ∧ w.cell? ⟨b, off + i * 9 + 3, none⟩ = some (.int .i64 (I i).sh) ∧
    w.cell? ⟨b, off + i * 9 + 4, none⟩ = some (.bool (I i).fill) ∧ w.cell? ⟨b, off + i * 9 + 5, none⟩ = some (.int .i64 (I i).c) ∧ w.cell? ⟨b, off + i * 9 + 6, none⟩ = some (.bool (I i).flag) ∧ w.cell? ⟨b, off + i * 9 + 7, none⟩ = some (.int .i64 (I i).fr) ∧ w.cell? ⟨b, off + i * 9 + 8, none⟩ = some (.int .i64 (I i).to)
theorem ItsAt.keep {S S' : Nat → Prop} {w w' : World} {ao : Option Addr} {n : Nat} {I : Nat → Itm} (h : ItsAt S w ao n I) (k : Kp S S' w w') : ItsAt S' w' ao n I := by
  intro i hi
  obtain ⟨b, off, e, hs, c0, c1, c2, c3, c4, c5, c6, c7, c8⟩ := h i hi
  exact ⟨b, off, e, (k _ _ _ hs c0).1, (k _ _ _ hs c0).2, (k _ _ _ hs c1).2, (k _ _ _ hs c2).2, (k _ _ _ hs c3).2, (k _ _ _ hs c4).2, (k _ _ _ hs c5).2, (k _ _ _ hs c6).2, (k _ _ _ hs c7).2, (k _ _ _ hs c8).2⟩
theorem ItsAt.below {S : Nat → Prop} {w w' : World} {ao : Option Addr} {n : Nat} {I : Nat → Itm} (h : ItsAt S w ao n I) (hb : Below w.heap.size w w') : ItsAt S w' ao n I := h.keep (kp_below hb)
/-- Items, one behind the other, by their numbers. -/
def nth (L : List Itm) (i : Nat) : Itm := L.getD i Itm.zero
theorem ownsRow_forms {w : World} {base size n : Nat} {e : TypeId} {v : Value} {xs : List Value} (h : w.ownsRow base e size v n xs) : (v = .slice none 0 0 ∧ n = 0) ∨ ∃ g cap, v = .slice (some ⟨g, 0, none⟩) n cap := by
  rcases h.2 with ⟨h1, h2⟩ | ⟨g, cap, cur, h1, _⟩
  · exact .inl ⟨h1, h2⟩
  · exact .inr ⟨g, cap, h1⟩
theorem own_shape {w : World} {base size n : Nat} {e : TypeId} {v : Value} {xs : List Value} (h : w.ownsRow base e size v n xs) : ∃ ao cap, v = .slice ao n cap := by
  rcases ownsRow_forms h with ⟨h1, h2⟩ | ⟨g, cap, h⟩
  · exact ⟨none, 0, by rw [h2]; exact h1⟩
  · exact ⟨_, _, h⟩
theorem own_its {w : World} {B : Nat} {ao : Option Addr} {n cap : Nat} {L : List Itm} (h : w.ownsRow B 52 9 (.slice ao n cap) n (ics L)) (hl : L.length = n) : ItsAt (fun b => B ≤ b) w ao n (nth L) := by
  intro i hi
  rcases ownsRow_forms h with ⟨_, h2⟩ | ⟨g, cap', e⟩
  · omega
  · injection e with e1 e2 e3
    subst e1; subst e3
    have hB := h.lt g rfl
    have key : ∀ j, j < 9 → w.cell? ⟨g, 0 + i * 9 + j, none⟩ = ((nth L i).cells)[j]? := by
      intro j hj
      have := h.cellAt (i * 9 + j) (by omega)
      rw [show 0 + i * 9 + j = i * 9 + j by omega, this, ics_get L i j (by omega) hj]; rfl
    exact ⟨g, 0, rfl, hB.1, key 0 (by omega), key 1 (by omega), key 2 (by omega), key 3 (by omega), key 4 (by omega), key 5 (by omega), key 6 (by omega), key 7 (by omega), key 8 (by omega)⟩

/-- Must a line end at an item? -/
def forc (x : Itm) : Bool := (x.k == 3) && decide (x.c ≤ -10000)
/-- May a line end at item k? -/
def legl (I : Nat → Itm) (n : Nat) (k : Int) : Bool :=
  if 0 ≤ k ∧ k < (n : Int) then (if (I k.toNat).k = 3 then decide ((I k.toNat).c < 10000) else ((I k.toNat).k == 2) && !(I k.toNat).fill && decide (0 < k) && ((I (k.toNat - 1)).k == 1)) else false
/-- May an item have that measure? -/
def ms (n : Int) : Bool := decide (0 ≤ n) && decide (n ≤ 68719476736)
def msd (x : Itm) : Bool := ms x.w && ms x.st && ms x.sh && decide (x.sh ≤ x.w)
/-- Has an item a kind, and no more than that kind has? -/
def ofk (x : Itm) : Bool :=
  if x.k = 1 then (x.st == 0) && (x.sh == 0) && (x.c == 0) && !x.fill && !x.flag
  else if x.k = 2 then (x.c == 0) && !x.flag && (!x.fill || ((x.w == 0) && (x.st == 0)))
  else if x.k = 3 then (x.st == 0) && (x.sh == 0) && !x.fill && decide (-10000 ≤ x.c) && decide (x.c ≤ 10000)
  else false
/-- Where the item ahead ends. -/
def pto (I : Nat → Itm) (i : Nat) : Int := if i = 0 then 0 else (I (i - 1)).to
/-- May the item i be? -/
def okI (I : Nat → Itm) (i : Nat) : Bool := ((I i).fr == pto I i) && decide ((I i).fr ≤ (I i).to) && decide ((I i).to ≤ 65536) && msd (I i) && ofk (I i)
/-- May items be a paragraph's? -/
def rgt (I : Nat → Itm) (n : Nat) : Bool := decide (0 < n) && decide (n ≤ 262144) && forc (I (n - 1)) && (List.range n).all (okI I)
theorem rgt_iff (I : Nat → Itm) (n : Nat) : rgt I n = true ↔ 0 < n ∧ n ≤ 262144 ∧ forc (I (n - 1)) = true ∧ ∀ i, i < n → okI I i = true := by
  simp [rgt, List.all_eq_true, and_assoc]
theorem rgt_no (I : Nat → Itm) (n : Nat) (h : ¬ (0 < n ∧ n ≤ 262144 ∧ forc (I (n - 1)) = true ∧ ∀ i, i < n → okI I i = true)) : rgt I n = false := by
  cases e : rgt I n with
  | false => rfl
  | true => exact absurd ((rgt_iff I n).1 e) h

end Go.Proofs.YtkmeeblkckfepabGreat
