/-
  Items in plain words: items as they lie in memory, which items may be a paragraph's, at which a line may end, and the items that a text in styles is made of, rune by rune. No program in it.
-/
import Derived.Test.YteckbkcngkppmaaMa
import Derived.Test.YteckbkcngkppmaaMm
import Derived.Test.YteckbkcngkppmaaIh
namespace Go.Proofs.Yteckbkcngkppmaa
open Go.RowKit
set_option linter.unusedSimpArgs false
set_option linter.unusedVariables false

structure Itm where
  k : Int
  w : Int
  st : Int
  sh : Int
  fill : Bool
  c : Int
  flag : Bool
  fr : Int
  to : Int
def Itm.zero : Itm := ⟨0, 0, 0, 0, false, 0, false, 0, 0⟩
def Itm.cells (x : Itm) : List Value := [.int .i64 x.k, .int .i64 x.w, .int .i64 x.st, .int .i64 x.sh, .bool x.fill, .int .i64 x.c, .bool x.flag, .int .i64 x.fr, .int .i64 x.to]
def Itm.val (x : Itm) : Value := .agg #[.int .i64 x.k, .int .i64 x.w, .int .i64 x.st, .int .i64 x.sh, .bool x.fill, .int .i64 x.c, .bool x.flag, .int .i64 x.fr, .int .i64 x.to]
/-- Are two items alike? -/
def Itm.like (a b : Itm) : Bool := (a.k == b.k) && (a.w == b.w) && (a.st == b.st) && (a.sh == b.sh) && (a.fill == b.fill) && (a.c == b.c) && (a.flag == b.flag) && (a.fr == b.fr) && (a.to == b.to)
theorem like_iff (a b : Itm) : a.like b = true ↔ a = b := by
  obtain ⟨a1, a2, a3, a4, a5, a6, a7, a8, a9⟩ := a
  obtain ⟨b1, b2, b3, b4, b5, b6, b7, b8, b9⟩ := b
  simp only [Itm.like, Bool.and_eq_true, beq_iff_eq, Itm.mk.injEq]
  constructor
  · rintro ⟨⟨⟨⟨⟨⟨⟨⟨h1, h2⟩, h3⟩, h4⟩, h5⟩, h6⟩, h7⟩, h8⟩, h9⟩; exact ⟨h1, h2, h3, h4, h5, h6, h7, h8, h9⟩
  · rintro ⟨h1, h2, h3, h4, h5, h6, h7, h8, h9⟩; exact ⟨⟨⟨⟨⟨⟨⟨⟨h1, h2⟩, h3⟩, h4⟩, h5⟩, h6⟩, h7⟩, h8⟩, h9⟩
/-- The cells of items. -/
def ics (L : List Itm) : List Value := L.flatMap Itm.cells
theorem ics_app (L M : List Itm) : ics (L ++ M) = ics L ++ ics M := by simp [ics]
theorem ics_one (x : Itm) : ics [x] = x.cells := by simp [ics]
theorem ics_len (L : List Itm) : (ics L).length = L.length * 9 := by
  induction L with
  | nil => rfl
  | cons x r ih =>
    have : ics (x :: r) = x.cells ++ ics r := by simp [ics]
    rw [this, List.length_append, ih]
    simp [Itm.cells]; omega
theorem ics_cell (L : List Itm) : ∀ u ∈ ics L, u.oneCell' = true := by
  intro u hu
  simp only [ics, List.mem_flatMap] at hu
  obtain ⟨x, _, hx⟩ := hu
  simp [Itm.cells] at hx
  rcases hx with rfl | rfl | rfl | rfl | rfl | rfl | rfl | rfl | rfl <;> rfl
theorem ics_get (L : List Itm) (i j : Nat) (hi : i < L.length) (hj : j < 9) : (ics L)[i * 9 + j]? = ((L.getD i Itm.zero).cells)[j]? := by
  induction L generalizing i with
  | nil => simp at hi
  | cons x r ih =>
    have e : ics (x :: r) = x.cells ++ ics r := by simp [ics]
    have hl : x.cells.length = 9 := rfl
    rw [e]
    cases i with
    | zero => rw [List.getElem?_append_left (by omega)]; simp
    | succ i =>
      rw [List.getElem?_append_right (by omega), hl, show (i + 1) * 9 + j - 9 = i * 9 + j by omega, ih i (by simpa using hi)]
      simp
/-- Items as they lie in memory, in blocks that S names. -/
def ItsAt (S : Nat → Prop) (w : World) (ao : Option Addr) (n : Nat) (I : Nat → Itm) : Prop := ∀ i, i < n → ∃ b off, ao = some ⟨b, off, none⟩ ∧ S b ∧
    w.cell? ⟨b, off + i * 9, none⟩ = some (.int .i64 (I i).k) ∧ w.cell? ⟨b, off + i * 9 + 1, none⟩ = some (.int .i64 (I i).w) ∧ w.cell? ⟨b, off + i * 9 + 2, none⟩ = some (.int .i64 (I i).st) ∧ w.cell? ⟨b, off + i * 9 + 3, none⟩ = some (.int .i64 (I i).sh) ∧
    w.cell? ⟨b, off + i * 9 + 4, none⟩ = some (.bool (I i).fill) ∧ w.cell? ⟨b, off + i * 9 + 5, none⟩ = some (.int .i64 (I i).c) ∧ w.cell? ⟨b, off + i * 9 + 6, none⟩ = some (.bool (I i).flag) ∧ w.cell? ⟨b, off + i * 9 + 7, none⟩ = some (.int .i64 (I i).fr) ∧ w.cell? ⟨b, off + i * 9 + 8, none⟩ = some (.int .i64 (I i).to)
theorem ItsAt.keep {S S' : Nat → Prop} {w w' : World} {ao : Option Addr} {n : Nat} {I : Nat → Itm} (h : ItsAt S w ao n I) (k : Kp S S' w w') : ItsAt S' w' ao n I := by
  intro i hi
  obtain ⟨b, off, e, hs, c0, c1, c2, c3, c4, c5, c6, c7, c8⟩ := h i hi
  exact ⟨b, off, e, (k _ _ _ hs c0).1, (k _ _ _ hs c0).2, (k _ _ _ hs c1).2, (k _ _ _ hs c2).2, (k _ _ _ hs c3).2, (k _ _ _ hs c4).2, (k _ _ _ hs c5).2, (k _ _ _ hs c6).2, (k _ _ _ hs c7).2, (k _ _ _ hs c8).2⟩
theorem ItsAt.below {S : Nat → Prop} {w w' : World} {ao : Option Addr} {n : Nat} {I : Nat → Itm} (h : ItsAt S w ao n I) (hb : Below w.heap.size w w') : ItsAt S w' ao n I := h.keep (kp_below hb)
/-- Items, one behind the other, by their numbers. -/
def nth (L : List Itm) (i : Nat) : Itm := L.getD i Itm.zero
theorem ownsRow_forms {w : World} {base size n : Nat} {e : TypeId} {v : Value} {xs : List Value} (h : w.ownsRow base e size v n xs) : (v = .slice none 0 0 ∧ n = 0) ∨ ∃ g cap, v = .slice (some ⟨g, 0, none⟩) n cap := by
  rcases h.2 with ⟨h1, h2⟩ | ⟨g, cap, cur, h1, _⟩
  · exact .inl ⟨h1, h2⟩
  · exact .inr ⟨g, cap, h1⟩
theorem own_shape {w : World} {base size n : Nat} {e : TypeId} {v : Value} {xs : List Value} (h : w.ownsRow base e size v n xs) : ∃ ao cap, v = .slice ao n cap := by
  rcases ownsRow_forms h with ⟨h1, h2⟩ | ⟨g, cap, h⟩
  · exact ⟨none, 0, by rw [h2]; exact h1⟩
  · exact ⟨_, _, h⟩
theorem own_its {w : World} {B : Nat} {ao : Option Addr} {n cap : Nat} {L : List Itm} (h : w.ownsRow B 40 9 (.slice ao n cap) n (ics L)) (hl : L.length = n) : ItsAt (fun b => B ≤ b) w ao n (nth L) := by
  intro i hi
  rcases ownsRow_forms h with ⟨_, h2⟩ | ⟨g, cap', e⟩
  · omega
  · injection e with e1 e2 e3
    subst e1; subst e3
    have hB := h.lt g rfl
    have key : ∀ j, j < 9 → w.cell? ⟨g, 0 + i * 9 + j, none⟩ = ((nth L i).cells)[j]? := by
      intro j hj
      have := h.cellAt (i * 9 + j) (by omega)
      rw [show 0 + i * 9 + j = i * 9 + j by omega, this, ics_get L i j (by omega) hj]; rfl
    exact ⟨g, 0, rfl, hB.1, key 0 (by omega), key 1 (by omega), key 2 (by omega), key 3 (by omega), key 4 (by omega), key 5 (by omega), key 6 (by omega), key 7 (by omega), key 8 (by omega)⟩

/-- Must a line end at an item? -/
def forc (x : Itm) : Bool := (x.k == 3) && decide (x.c ≤ -10000)
/-- May a line end at item k? -/
def legl (I : Nat → Itm) (n : Nat) (k : Int) : Bool :=
  if 0 ≤ k ∧ k < (n : Int) then (if (I k.toNat).k = 3 then decide ((I k.toNat).c < 10000) else ((I k.toNat).k == 2) && !(I k.toNat).fill && decide (0 < k) && ((I (k.toNat - 1)).k == 1)) else false
/-- May an item have that measure? -/
def ms (n : Int) : Bool := decide (0 ≤ n) && decide (n ≤ 68719476736)
def msd (x : Itm) : Bool := ms x.w && ms x.st && ms x.sh && decide (x.sh ≤ x.w)
/-- Has an item a kind, and no more than that kind has? -/
def ofk (x : Itm) : Bool :=
  if x.k = 1 then (x.st == 0) && (x.sh == 0) && (x.c == 0) && !x.fill && !x.flag
  else if x.k = 2 then (x.c == 0) && !x.flag && (!x.fill || ((x.w == 0) && (x.st == 0)))
  else if x.k = 3 then (x.st == 0) && (x.sh == 0) && !x.fill && decide (-10000 ≤ x.c) && decide (x.c ≤ 10000)
  else false
/-- Where the item ahead ends. -/
def pto (I : Nat → Itm) (i : Nat) : Int := if i = 0 then 0 else (I (i - 1)).to
/-- May the item i be? -/
def okI (I : Nat → Itm) (i : Nat) : Bool := ((I i).fr == pto I i) && decide ((I i).fr ≤ (I i).to) && decide ((I i).to ≤ 65536) && msd (I i) && ofk (I i)
/-- May items be a paragraph's? -/
def rgt (I : Nat → Itm) (n : Nat) : Bool := decide (0 < n) && decide (n ≤ 262144) && forc (I (n - 1)) && (List.range n).all (okI I)
theorem rgt_iff (I : Nat → Itm) (n : Nat) : rgt I n = true ↔ 0 < n ∧ n ≤ 262144 ∧ forc (I (n - 1)) = true ∧ ∀ i, i < n → okI I i = true := by
  simp [rgt, List.all_eq_true, and_assoc]
theorem rgt_no (I : Nat → Itm) (n : Nat) (h : ¬ (0 < n ∧ n ≤ 262144 ∧ forc (I (n - 1)) = true ∧ ∀ i, i < n → okI I i = true)) : rgt I n = false := by
  cases e : rgt I n with
  | false => rfl
  | true => exact absurd ((rgt_iff I n).1 e) h

/-- The last item gets wider, and has more bytes. -/
def grow (L : List Itm) (W t : Int) : List Itm := match L.getLast? with
  | none => L
  | some x => L.dropLast ++ [{ x with w := ad x.w W, to := t }]
theorem grow_snoc (A : List Itm) (x : Itm) (W t : Int) : grow (A ++ [x]) W t = A ++ [{ x with w := ad x.w W, to := t }] := by simp [grow]
/-- Is the last item a Box? -/
def lbox (L : List Itm) : Bool := match L.getLast? with
  | none => false
  | some x => x.k == 1
theorem lbox_snoc (A : List Itm) (x : Itm) : lbox (A ++ [x]) = (x.k == 1) := by simp [lbox]
theorem lbox_nil : lbox [] = false := rfl
theorem snoc_of {α : Type} (l : List α) (h : 0 < l.length) : ∃ a x, l = a ++ [x] := by
  exact ⟨l.dropLast, l.getLast (by intro e; rw [e] at h; simp at h), (List.dropLast_concat_getLast _).symm⟩
theorem lbox_pos (L : List Itm) (h : lbox L = true) : ∃ A x, L = A ++ [x] ∧ x.k = 1 := by
  by_cases c : 0 < L.length
  · obtain ⟨A, x, rfl⟩ := snoc_of L c
    rw [lbox_snoc] at h
    exact ⟨A, x, rfl, by simpa using h⟩
  · have : L = [] := List.eq_nil_of_length_eq_zero (by omega)
    subst this; cases h
theorem grow_len (L : List Itm) (W t : Int) : (grow L W t).length = L.length := by
  by_cases c : 0 < L.length
  · obtain ⟨A, x, rfl⟩ := snoc_of L c
    rw [grow_snoc]; simp
  · have : L = [] := List.eq_nil_of_length_eq_zero (by omega)
    subst this; rfl

def bxI (W f t : Int) : Itm := ⟨1, W, 0, 0, false, 0, false, f, t⟩
def glI (w st sh f t : Int) : Itm := ⟨2, w, st, sh, false, 0, false, f, t⟩
def pnI (w c : Int) (flag : Bool) (f t : Int) : Itm := ⟨3, w, 0, 0, false, c, flag, f, t⟩
def flI (f : Int) : Itm := ⟨2, 0, 0, 0, true, 0, false, f, f⟩
/-- A rune's Box: by itself, or put into the Box ahead. -/
def bxd (L : List Itm) (sy W y f t : Int) : List Itm := if lbox L = true ∧ sy = y then grow L W t else L ++ [bxI W f t]
/-- The items behind one rune more, and the style of the last Box's last rune. -/
def nx (s : Sty) (L : List Itm) (sy r y f t : Int) : List Itm × Int :=
  if kd r = 1 then (L ++ [glI s.sp s.st s.sh f t], sy)
  else if kd r = 3 then (L ++ [pnI s.hy 50 true f t], sy)
  else if kd r = 4 then (L ++ [pnI 0 0 false f t], sy)
  else if kd r = 5 then (L ++ [pnI 0 10000 false f t], sy)
  else if kd r = 7 ∨ kd r = 8 then (L ++ [flI f, pnI 0 (-10000) false f t], sy)
  else if kd r = 6 then (bxd L sy (wdS s r) y f t ++ [pnI 0 50 true t t], y)
  else (bxd L sy (wdS s r) y f t, y)
/-- The items of the first k runes. -/
def bs (F : Nat → Sty) (n : Nat) (t : ByteArray) (Y : Nat → Int) : Nat → List Itm × Int
  | 0 => ([], 0)
  | k + 1 => nx (ofS F n (Y (it t k))) (bs F n t Y k).1 (bs F n t Y k).2 (rn t k) (Y (it t k)) (it t k) (it t (k + 1))
/-- The items of a text: at its end a line ends. -/
def fin (F : Nat → Sty) (n : Nat) (t : ByteArray) (Y : Nat → Int) (N : Nat) : List Itm :=
  if bt t (t.size - 1) = 10 then (bs F n t Y N).1 else (bs F n t Y N).1 ++ [flI t.size, pnI 0 (-10000) false t.size t.size]

theorem bxd_len (L : List Itm) (sy W y f t : Int) : (bxd L sy W y f t).length ≤ L.length + 1 := by
  unfold bxd
  split
  · rw [grow_len]; omega
  · simp
theorem nx_len (s : Sty) (L : List Itm) (sy r y f t : Int) : (nx s L sy r y f t).1.length ≤ L.length + 2 := by
  have := bxd_len L sy (wdS s r) y f t
  unfold nx
  repeat' split
  all_goals simp
  all_goals omega
theorem bs_len (F : Nat → Sty) (n : Nat) (t : ByteArray) (Y : Nat → Int) (k : Nat) : (bs F n t Y k).1.length ≤ 2 * k := by
  induction k with
  | zero => simp [bs]
  | succ k ih =>
    have := nx_len (ofS F n (Y (it t k))) (bs F n t Y k).1 (bs F n t Y k).2 (rn t k) (Y (it t k)) (it t k) (it t (k + 1))
    simp only [bs]
    omega

/-- What the runs ahead of run i have, together. -/
def pre (Ln : Nat → Int) : Nat → Int
  | 0 => 0
  | i + 1 => pre Ln i + Ln i
/-- The style of a byte, by runs: m runs from run i on. -/
def sta (Ln Ys : Nat → Int) : Nat → Nat → Int → Int
  | 0, _, _ => 0
  | m + 1, i, a => if a < Ln i then Ys i else sta Ln Ys m (i + 1) (a - Ln i)
theorem sta_at (Ln Ys : Nat → Int) (n i : Nat) (a : Int) (hn : ∀ j, j < n → 0 ≤ Ln j) (hi : i < n) (h1 : pre Ln i ≤ a) (h2 : a < pre Ln (i + 1)) : ∀ j, j ≤ i → sta Ln Ys (n - j) j (a - pre Ln j) = Ys i := by
  have hm : ∀ j k, j ≤ k → k ≤ n → pre Ln j ≤ pre Ln k := by
    intro j k hjk hk
    induction k with
    | zero => have : j = 0 := by omega
              subst this; exact Int.le_refl _
    | succ k ih =>
      by_cases c : j = k + 1
      · subst c; exact Int.le_refl _
      · have := ih (by omega) (by omega)
        have := hn k (by omega)
        simp only [pre]; omega
  have key : ∀ d j, j + d = i → sta Ln Ys (n - j) j (a - pre Ln j) = Ys i := by
    intro d
    induction d with
    | zero =>
      intro j hj
      obtain rfl : j = i := by omega
      rw [show n - j = (n - j - 1) + 1 by omega]
      simp only [sta]
      rw [if_pos (by simp only [pre] at h2; omega)]
    | succ d ih =>
      intro j hj
      rw [show n - j = (n - (j + 1)) + 1 by omega]
      simp only [sta]
      have := hm (j + 1) i (by omega) (by omega)
      rw [if_neg (by simp only [pre] at this; omega), show a - pre Ln j - Ln j = a - pre Ln (j + 1) by simp only [pre]; omega]
      exact ih (j + 1) (by omega)
  intro j hj
  exact key (i - j) j (by omega)

/-- Has a text a line end ahead of its last byte? -/
def early (t : ByteArray) : Bool := (List.range (t.size - 1)).any fun i => bt t i == 10
theorem early_iff (t : ByteArray) : early t = true ↔ ∃ i, i < t.size - 1 ∧ bt t i = 10 := by
  simp [early, List.any_eq_true]
/-- The fault of run i. -/
def cr (t : ByteArray) (N n : Nat) (Ln Ys : Nat → Int) (i : Nat) : Int :=
  if Ln i < 0 ∨ (t.size : Int) - pre Ln i < Ln i then 70 else if 0 ≤ Ys i ∧ Ys i < (n : Int) then (if btw t N (pre Ln (i + 1)) = true then 0 else 21) else 43
/-- The first fault of the first k runs. -/
def crs (t : ByteArray) (N n : Nat) (Ln Ys : Nat → Int) : Nat → Int
  | 0 => 0
  | k + 1 => if crs t N n Ln Ys k = 0 then cr t N n Ln Ys k else crs t N n Ln Ys k
/-- The first fault of a text in styles. -/
def ck (t : ByteArray) (N n m : Nat) (Ln Ys : Nat → Int) : Int :=
  if badAt t N < 0 then (if t.size = 0 ∨ early t = true then 70 else if crs t N n Ln Ys m = 0 then (if pre Ln m = (t.size : Int) then 0 else 70) else crs t N n Ln Ys m) else 20
end Go.Proofs.Yteckbkcngkppmaa
