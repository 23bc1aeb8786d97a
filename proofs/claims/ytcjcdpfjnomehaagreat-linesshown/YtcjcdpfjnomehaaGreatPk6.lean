/-
  What the texts on items and lines stand on: facts kept from the walk, worlds that grow, blocks that S names; what the program's Sub answers.
-/
import Derived.WalkMore
import Derived.Laws.RangeAny
import Derived.Deep.QuietTactic
import Derived.BigQuiet
import Derived.Handy
import Derived.Laws.StructEq
import Derived.Test.YtcjcdpfjnomehaaGreatPk5
import Derived.Test.YtcjcdpfjnomehaaGreatPk1
namespace Go.Proofs.YtcjcdpfjnomehaaGreat
open Go.RowKit
set_option linter.unusedSimpArgs false
set_option linter.unusedVariables false
theorem boxed {p : Prop} (h : p) : Box p := ⟨h⟩
theorem hold {w w' : World} {a : Addr} {v : Value} (hb : Below w.heap.size w w') (h : w.cell? a = some v) : w'.cell? a = some v := by
  rw [hb.cell (World.block_lt_of_cell? w _ h)]; exact h
theorem below_step {B : Nat} {w w1 w2 : World} (h1 : Below B w w1) (hB : B ≤ w.heap.size) (h2 : Below w1.heap.size w1 w2) : Below B w w2 :=
  h1.trans (h2.mono (Nat.le_trans hB h1.size))
def I64 (n : Int) : Prop := -9223372036854775808 ≤ n ∧ n ≤ 9223372036854775807
def Kp (S S' : Nat → Prop) (w w' : World) : Prop := ∀ b i u, S b → w.cell? ⟨b, i, none⟩ = some u → S' b ∧ w'.cell? ⟨b, i, none⟩ = some u
theorem kp_below {S : Nat → Prop} {w w' : World} (h : Below w.heap.size w w') : Kp S S w w' := fun b i u hs hc => ⟨hs, hold h hc⟩
theorem cell_first (w : World) (cs : Array Value) (t : TypeId) (i : Nat) : (w.alloc (.cells cs t)).cell? ⟨w.heap.size, i, none⟩ = cs[i]? := by
  rw [cell_of_row _ _ _ _ _ _ (heap_alloc_new w (.cells cs t))]
end Go.Proofs.YtcjcdpfjnomehaaGreat

/-
  Items in plain words: items as they lie in memory, which items may be a paragraph's, at which a line may end, and the items that a text in styles is made of, rune by rune. No program in it.
-/
namespace Go.Proofs.YtcjcdpfjnomehaaGreat
open Go.RowKit
set_option linter.unusedSimpArgs false
set_option linter.unusedVariables false
structure Itm where
  k : Int
  w : Int
  st : Int
  sh : Int
  fill : Bool
  c : Int
  flag : Bool
  fr : Int
  to : Int
def Itm.zero : Itm := ⟨0, 0, 0, 0, false, 0, false, 0, 0⟩
def Itm.cells (x : Itm) : List Value := [.int .i64 x.k, .int .i64 x.w, .int .i64 x.st, .int .i64 x.sh, .bool x.fill, .int .i64 x.c, .bool x.flag, .int .i64 x.fr, .int .i64 x.to]
def Itm.val (x : Itm) : Value := .agg #[.int .i64 x.k, .int .i64 x.w, .int .i64 x.st, .int .i64 x.sh, .bool x.fill, .int .i64 x.c, .bool x.flag, .int .i64 x.fr, .int .i64 x.to]
def Itm.like (a b : Itm) : Bool := (a.k == b.k) && (a.w == b.w) && (a.st == b.st) && (a.sh == b.sh) && (a.fill == b.fill) && (a.c == b.c) && (a.flag == b.flag) && (a.fr == b.fr) && (a.to == b.to)
def ics (L : List Itm) : List Value := L.flatMap Itm.cells
theorem ics_app (L M : List Itm) : ics (L ++ M) = ics L ++ ics M := by simp [ics]
theorem ics_one (x : Itm) : ics [x] = x.cells := by simp [ics]
theorem ics_len (L : List Itm) : (ics L).length = L.length * 9 := by
  induction L with
  | nil => rfl
  | cons x r ih =>
    have : ics (x :: r) = x.cells ++ ics r := by simp [ics]
    rw [this, List.length_append, ih]
    simp [Itm.cells]; omega
theorem ics_cell (L : List Itm) : ∀ u ∈ ics L, u.oneCell' = true := by
  intro u hu
  simp only [ics, List.mem_flatMap] at hu
  obtain ⟨x, _, hx⟩ := hu
  simp [Itm.cells] at hx
  rcases hx with rfl | rfl | rfl | rfl | rfl | rfl | rfl | rfl | rfl <;> rfl
theorem ics_get (L : List Itm) (i j : Nat) (hi : i < L.length) (hj : j < 9) : (ics L)[i * 9 + j]? = ((L.getD i Itm.zero).cells)[j]? := by
  induction L generalizing i with
  | nil => simp at hi
  | cons x r ih =>
    have e : ics (x :: r) = x.cells ++ ics r := by simp [ics]
    have hl : x.cells.length = 9 := rfl
    rw [e]
    cases i with
    | zero => rw [List.getElem?_append_left (by omega)]; simp
    | succ i =>
      rw [List.getElem?_append_right (by omega), hl, show (i + 1) * 9 + j - 9 = i * 9 + j by omega, ih i (by simpa using hi)]
      simp
def ItsAt (S : Nat → Prop) (w : World) (ao : Option Addr) (n : Nat) (I : Nat → Itm) : Prop := ∀ i, i < n → ∃ b off, ao = some ⟨b, off, none⟩ ∧ S b ∧
    w.cell? ⟨b, off + i * 9, none⟩ = some (.int .i64 (I i).k) ∧ w.cell? ⟨b, off + i * 9 + 1, none⟩ = some (.int .i64 (I i).w) ∧ w.cell? ⟨b, off + i * 9 + 2, none⟩ = some (.int .i64 (I i).st) ∧ w.cell? ⟨b, off + i * 9 + 3, none⟩ = some (.int .i64 (I i).sh) ∧
    w.cell? ⟨b, off + i * 9 + 4, none⟩ = some (.bool (I i).fill) ∧ w.cell? ⟨b, off + i * 9 + 5, none⟩ = some (.int .i64 (I i).c) ∧ w.cell? ⟨b, off + i * 9 + 6, none⟩ = some (.bool (I i).flag) ∧ w.cell? ⟨b, off + i * 9 + 7, none⟩ = some (.int .i64 (I i).fr) ∧ w.cell? ⟨b, off + i * 9 + 8, none⟩ = some (.int .i64 (I i).to)
theorem ItsAt.keep {S S' : Nat → Prop} {w w' : World} {ao : Option Addr} {n : Nat} {I : Nat → Itm} (h : ItsAt S w ao n I) (k : Kp S S' w w') : ItsAt S' w' ao n I := by
  intro i hi
  obtain ⟨b, off, e, hs, c0, c1, c2, c3, c4, c5, c6, c7, c8⟩ := h i hi
  exact ⟨b, off, e, (k _ _ _ hs c0).1, (k _ _ _ hs c0).2, (k _ _ _ hs c1).2, (k _ _ _ hs c2).2, (k _ _ _ hs c3).2, (k _ _ _ hs c4).2, (k _ _ _ hs c5).2, (k _ _ _ hs c6).2, (k _ _ _ hs c7).2, (k _ _ _ hs c8).2⟩
theorem ItsAt.below {S : Nat → Prop} {w w' : World} {ao : Option Addr} {n : Nat} {I : Nat → Itm} (h : ItsAt S w ao n I) (hb : Below w.heap.size w w') : ItsAt S w' ao n I := h.keep (kp_below hb)
def nth (L : List Itm) (i : Nat) : Itm := L.getD i Itm.zero
theorem ownsRow_forms {w : World} {base size n : Nat} {e : TypeId} {v : Value} {xs : List Value} (h : w.ownsRow base e size v n xs) : (v = .slice none 0 0 ∧ n = 0) ∨ ∃ g cap, v = .slice (some ⟨g, 0, none⟩) n cap := by
  rcases h.2 with ⟨h1, h2⟩ | ⟨g, cap, cur, h1, _⟩
  · exact .inl ⟨h1, h2⟩
  · exact .inr ⟨g, cap, h1⟩
theorem own_shape {w : World} {base size n : Nat} {e : TypeId} {v : Value} {xs : List Value} (h : w.ownsRow base e size v n xs) : ∃ ao cap, v = .slice ao n cap := by
  rcases ownsRow_forms h with ⟨h1, h2⟩ | ⟨g, cap, h⟩
  · exact ⟨none, 0, by rw [h2]; exact h1⟩
  · exact ⟨_, _, h⟩
theorem own_its {w : World} {B : Nat} {ao : Option Addr} {n cap : Nat} {L : List Itm} (h : w.ownsRow B 80 9 (.slice ao n cap) n (ics L)) (hl : L.length = n) : ItsAt (fun b => B ≤ b) w ao n (nth L) := by
  intro i hi
  rcases ownsRow_forms h with ⟨_, h2⟩ | ⟨g, cap', e⟩
  · omega
  · injection e with e1 e2 e3
    subst e1; subst e3
    have hB := h.lt g rfl
    have key : ∀ j, j < 9 → w.cell? ⟨g, 0 + i * 9 + j, none⟩ = ((nth L i).cells)[j]? := by
      intro j hj
      have := h.cellAt (i * 9 + j) (by omega)
      rw [show 0 + i * 9 + j = i * 9 + j by omega, this, ics_get L i j (by omega) hj]; rfl
    exact ⟨g, 0, rfl, hB.1, key 0 (by omega), key 1 (by omega), key 2 (by omega), key 3 (by omega), key 4 (by omega), key 5 (by omega), key 6 (by omega), key 7 (by omega), key 8 (by omega)⟩
def forc (x : Itm) : Bool := (x.k == 3) && decide (x.c ≤ -10000)
def legl (I : Nat → Itm) (n : Nat) (k : Int) : Bool :=
  if 0 ≤ k ∧ k < (n : Int) then (if (I k.toNat).k = 3 then decide ((I k.toNat).c < 10000) else ((I k.toNat).k == 2) && !(I k.toNat).fill && decide (0 < k) && ((I (k.toNat - 1)).k == 1)) else false
def ms (n : Int) : Bool := decide (0 ≤ n) && decide (n ≤ 68719476736)
def msd (x : Itm) : Bool := ms x.w && ms x.st && ms x.sh && decide (x.sh ≤ x.w)
def ofk (x : Itm) : Bool :=
  if x.k = 1 then (x.st == 0) && (x.sh == 0) && (x.c == 0) && !x.fill && !x.flag
  else if x.k = 2 then (x.c == 0) && !x.flag && (!x.fill || ((x.w == 0) && (x.st == 0)))
  else if x.k = 3 then (x.st == 0) && (x.sh == 0) && !x.fill && decide (-10000 ≤ x.c) && decide (x.c ≤ 10000)
  else false
def pto (I : Nat → Itm) (i : Nat) : Int := if i = 0 then 0 else (I (i - 1)).to
def okI (I : Nat → Itm) (i : Nat) : Bool := ((I i).fr == pto I i) && decide ((I i).fr ≤ (I i).to) && decide ((I i).to ≤ 65536) && msd (I i) && ofk (I i)
def rgt (I : Nat → Itm) (n : Nat) : Bool := decide (0 < n) && decide (n ≤ 262144) && forc (I (n - 1)) && (List.range n).all (okI I)
theorem rgt_iff (I : Nat → Itm) (n : Nat) : rgt I n = true ↔ 0 < n ∧ n ≤ 262144 ∧ forc (I (n - 1)) = true ∧ ∀ i, i < n → okI I i = true := by
  simp [rgt, List.all_eq_true, and_assoc]
theorem rgt_no (I : Nat → Itm) (n : Nat) (h : ¬ (0 < n ∧ n ≤ 262144 ∧ forc (I (n - 1)) = true ∧ ∀ i, i < n → okI I i = true)) : rgt I n = false := by
  cases e : rgt I n with
  | false => rfl
  | true => exact absurd ((rgt_iff I n).1 e) h
end Go.Proofs.YtcjcdpfjnomehaaGreat

/-
  Lines in plain words: what items come to together, where a line behind a break begins, how a line's glue is set. No program in it.
-/
namespace Go.Proofs.YtcjcdpfjnomehaaGreat
open Go.RowKit
set_option linter.unusedSimpArgs false
set_option linter.unusedVariables false
structure Sm where
  w : Int
  st : Int
  sh : Int
  f : Int
def Sm.zero : Sm := ⟨0, 0, 0, 0⟩
def Sm.cells (s : Sm) : List Value := [.int .i64 s.w, .int .i64 s.st, .int .i64 s.sh, .int .i64 s.f]
def Sm.val (s : Sm) : Value := .agg #[.int .i64 s.w, .int .i64 s.st, .int .i64 s.sh, .int .i64 s.f]
def Sm.like (a b : Sm) : Bool := (a.w == b.w) && (a.st == b.st) && (a.sh == b.sh) && (a.f == b.f)
def acc (s : Sm) (x : Itm) : Sm := ⟨if x.k = 3 then s.w else s.w + x.w, s.st + x.st, s.sh + x.sh, if x.fill = true then s.f + 1 else s.f⟩
def pre (I : Nat → Itm) : Nat → Sm
  | 0 => Sm.zero
  | k + 1 => acc (pre I k) (I k)
def Sm.sub (a b : Sm) : Sm := ⟨a.w - b.w, a.st - b.st, a.sh - b.sh, a.f - b.f⟩
def addd (x : Itm) : Int := if x.k = 3 then x.w else 0
def wst (I : Nat → Itm) : Nat → Int
  | 0 => 0
  | k + 1 => max (wst I k) (addd (I k))
def beg (x : Itm) : Bool := (x.k == 1) || forc x || ((x.k == 2) && x.fill)
def nb (I : Nat → Itm) : Nat → Nat → Nat
  | 0, j => j
  | m + 1, j => if beg (I j) = true then j else nb I m (j + 1)
def nxt (I : Nat → Itm) (n k : Nat) : Nat := nb I (n - (k + 1)) (k + 1)
def sta (I : Nat → Itm) (n : Nat) (a : Int) : Nat := if a < 0 then 0 else if a < (n : Int) then nxt I n a.toNat else n
def upt (I : Nat → Itm) (n : Nat) (a b : Int) : Sm := if 0 ≤ b ∧ b < (n : Int) ∧ (sta I n a : Int) < b then (pre I b.toNat).sub (pre I (sta I n a)) else Sm.zero
def itm (I : Nat → Itm) (n : Nat) (k : Int) : Itm := if 0 ≤ k ∧ k < (n : Int) then I k.toNat else Itm.zero
def lin (I : Nat → Itm) (n : Nat) (a b : Int) : Sm := ⟨(upt I n a b).w + addd (itm I n b), (upt I n a b).st, (upt I n a b).sh, (upt I n a b).f⟩
def lgs (I : Nat → Itm) (n : Nat) : Nat → List Nat
  | 0 => []
  | k + 1 => if legl I n k = true then lgs I n k ++ [k] else lgs I n k
theorem lgs_len (I : Nat → Itm) (n k : Nat) : (lgs I n k).length ≤ k := by
  induction k with
  | zero => simp [lgs]
  | succ k ih => simp only [lgs]; split <;> (try simp only [List.length_append, List.length_cons, List.length_nil]) <;> omega
theorem nb_le (I : Nat → Itm) (m j : Nat) : j ≤ nb I m j ∧ nb I m j ≤ j + m := by
  induction m generalizing j with
  | zero => simp [nb]
  | succ m ih =>
    simp only [nb]
    have := ih (j + 1)
    split <;> omega
theorem nxt_le (I : Nat → Itm) (n k : Nat) (h : k < n) : k < nxt I n k ∧ nxt I n k ≤ n := by
  unfold nxt
  have := nb_le I (n - (k + 1)) (k + 1)
  omega
theorem sta_le (I : Nat → Itm) (n : Nat) (a : Int) : sta I n a ≤ n := by
  unfold sta
  split
  · omega
  · split
    · have := nxt_le I n a.toNat (by omega); omega
    · omega
theorem okI_ms (I : Nat → Itm) (i : Nat) (h : okI I i = true) : (0 ≤ (I i).w ∧ (I i).w ≤ 68719476736) ∧ (0 ≤ (I i).st ∧ (I i).st ≤ 68719476736) ∧ (0 ≤ (I i).sh ∧ (I i).sh ≤ 68719476736) ∧ (I i).sh ≤ (I i).w ∧ ((I i).k = 3 → (I i).st = 0 ∧ (I i).sh = 0 ∧ (I i).fill = false) := by
  simp [okI, msd, ms, and_assoc] at h
  refine ⟨by omega, by omega, by omega, by omega, fun hk => ?_⟩
  have := h.2.2.2.2.2.2.2.2.2.2
  unfold ofk at this
  rw [if_neg (by omega), if_neg (by omega), if_pos hk] at this
  simp at this
  exact ⟨this.1.1.1.1, this.1.1.1.2, this.1.1.2⟩
theorem pre_le (I : Nat → Itm) (n : Nat) (h : ∀ i, i < n → okI I i = true) (k : Nat) (hk : k ≤ n) :
    (0 ≤ (pre I k).w ∧ (pre I k).w ≤ k * 68719476736) ∧ (0 ≤ (pre I k).st ∧ (pre I k).st ≤ k * 68719476736) ∧ (0 ≤ (pre I k).sh ∧ (pre I k).sh ≤ k * 68719476736) ∧ (0 ≤ (pre I k).f ∧ (pre I k).f ≤ k) := by
  induction k with
  | zero => simp [pre, Sm.zero]
  | succ k ih =>
    have h1 := ih (by omega)
    have h2 := okI_ms I k (h k (by omega))
    simp only [pre, acc]
    refine ⟨?_, by omega, by omega, ?_⟩
    · split <;> omega
    · split <;> omega
theorem pre_mono (I : Nat → Itm) (n : Nat) (h : ∀ i, i < n → okI I i = true) (j k : Nat) (hjk : j ≤ k) (hk : k ≤ n) :
    ((pre I j).w ≤ (pre I k).w) ∧ ((pre I j).st ≤ (pre I k).st) ∧ ((pre I j).sh ≤ (pre I k).sh) ∧ ((pre I j).f ≤ (pre I k).f) ∧ (pre I j).w - (pre I j).sh ≤ (pre I k).w - (pre I k).sh := by
  induction k with
  | zero => obtain rfl : j = 0 := by omega
            simp
  | succ k ih =>
    by_cases c : j = k + 1
    · subst c; simp
    · have h1 := ih (by omega) (by omega)
      have h2 := okI_ms I k (h k (by omega))
      simp only [pre, acc]
      by_cases hk3 : (I k).k = 3
      · have := h2.2.2.2.2 hk3
        rw [if_pos hk3]
        refine ⟨by omega, by omega, by omega, ?_, by omega⟩
        split <;> omega
      · rw [if_neg hk3]
        refine ⟨by omega, by omega, by omega, ?_, by omega⟩
        split <;> omega
theorem wst_le (I : Nat → Itm) (n : Nat) (h : ∀ i, i < n → okI I i = true) (k : Nat) (hk : k ≤ n) : (0 ≤ wst I k ∧ wst I k ≤ 68719476736) ∧ ∀ j, j < k → addd (I j) ≤ wst I k := by
  induction k with
  | zero => simp [wst]
  | succ k ih =>
    have h1 := ih (by omega)
    have h2 := okI_ms I k (h k (by omega))
    have h3 : 0 ≤ addd (I k) ∧ addd (I k) ≤ 68719476736 := by unfold addd; split <;> omega
    simp only [wst]
    refine ⟨by omega, fun j hj => ?_⟩
    by_cases c : j = k
    · subst c; omega
    · have := h1.2 j (by omega); omega
structure Ft where
  num : Int
  den : Int
  bad : Int
  cls : Int
  over : Bool
def Ft.val (f : Ft) : Value := .agg #[.int .i64 f.num, .int .i64 f.den, .int .i64 f.bad, .int .i64 f.cls, .bool f.over]
def Ft.like (a b : Ft) : Bool := (a.num == b.num) && (a.den == b.den) && (a.bad == b.bad) && (a.cls == b.cls) && (a.over == b.over)
def loo (b : Int) : Int := if 99 < b then 3 else if 12 < b then 2 else 1
def tig (b : Int) : Int := if 12 < b then 0 else 1
def stF (l s : Int) : Ft := if s = 0 then ⟨0, 1, 10000, 3, false⟩ else ⟨lo1 l s, lo2 l s, bd l s, loo (bd l s), false⟩
def ovF (s : Int) : Ft := ⟨if s = 0 then 0 else -1, 1, 10000, 0, true⟩
def shF (x s : Int) : Ft := if s < x then ovF s else ⟨lo1 (-x) s, lo2 (-x) s, bd x s, tig (bd x s), false⟩
def setF (s : Sm) (width : Int) : Ft :=
  if width - s.w = 0 ∨ (0 < width - s.w ∧ 0 < s.f) then ⟨0, 1, 0, 1, false⟩
  else if 0 < width - s.w then stF (width - s.w) s.st else shF (-(width - s.w)) s.sh
end Go.Proofs.YtcjcdpfjnomehaaGreat

/-
  Structs that a call gives back: their blocks are laid ahead of all, and written at the end.
-/
namespace Go.Proofs.YtcjcdpfjnomehaaGreat
open Go.RowKit
set_option linter.unusedSimpArgs false
set_option linter.unusedVariables false
theorem grown_below {w w' : World} {lb B : Nat} (h : w.grownBy w' (some lb)) (hl : B ≤ lb) (hB : B ≤ w.heap.size) : Below B w w' :=
  ⟨h.os, h.tape, h.output, h.size, fun k hk => h.block k (by omega) (fun e => by injection e; omega)⟩
theorem grown_trans {a b c : World} {row : Option Nat} (h : a.grownBy b row) (k : b.grownBy c row) : a.grownBy c row :=
  ⟨k.os.trans h.os, k.tape.trans h.tape, k.output.trans h.output, Nat.le_trans h.size k.size, fun i hi hr => (k.block i (Nat.lt_of_lt_of_le hi h.size) hr).trans (h.block i hi hr)⟩
theorem grown_set (w : World) (b i : Nat) (u : Value) : w.grownBy (w.setCell ⟨b, i, none⟩ u) (some b) :=
  ⟨rfl, rfl, rfl, by simp, fun k _ hk => heap_setCell_other w ⟨b, i, none⟩ k u (fun e => hk (by simp [e]))⟩
theorem cells4 {W : World} {rb : Nat} {v0 v1 v2 v3 : Value} {t : TypeId} (e : W.heap[rb]? = some (.cells #[v0, v1, v2, v3] t (0, 0))) : (W.cell? ⟨rb, 0, none⟩ = some v0 ∧ W.cell? ⟨rb, 1, none⟩ = some v1 ∧ W.cell? ⟨rb, 2, none⟩ = some v2 ∧ W.cell? ⟨rb, 3, none⟩ = some v3) ∧ W.frozen? ⟨rb, 0, none⟩ = false ∧ W.frozen? ⟨rb, 1, none⟩ = false ∧ W.frozen? ⟨rb, 2, none⟩ = false ∧ W.frozen? ⟨rb, 3, none⟩ = false := by
  refine ⟨⟨?_, ?_, ?_, ?_⟩, ?_, ?_, ?_, ?_⟩
  · simp [World.cell?, e]
  · simp [World.cell?, e]
  · simp [World.cell?, e]
  · simp [World.cell?, e]
  · unfold World.frozen?; rw [e]; simp
  · unfold World.frozen?; rw [e]; simp
  · unfold World.frozen?; rw [e]; simp
  · unfold World.frozen?; rw [e]; simp
def put4 (w : World) (rb : Nat) (v0 v1 v2 v3 : Value) : World := ((((w.setCell ⟨rb, 0, none⟩ v0).setCell ⟨rb, 1, none⟩ v1).setCell ⟨rb, 2, none⟩ v2).setCell ⟨rb, 3, none⟩ v3)
theorem put4_heap {w : World} {rb : Nat} {x0 x1 x2 x3 : Value} {t : TypeId} (h : w.heap[rb]? = some (.cells #[x0, x1, x2, x3] t (0, 0))) (v0 v1 v2 v3 : Value) : (put4 w rb v0 v1 v2 v3).heap[rb]? = some (.cells #[v0, v1, v2, v3] t (0, 0)) := by
  simp [put4, World.setCell, Array.getElem?_modify, h]
theorem put4_grown (w : World) (rb : Nat) (v0 v1 v2 v3 : Value) : w.grownBy (put4 w rb v0 v1 v2 v3) (some rb) := by
  unfold put4
  exact grown_trans (grown_trans (grown_trans (grown_set _ _ _ _) (grown_set _ _ _ _)) (grown_set _ _ _ _)) (grown_set _ _ _ _)
theorem res4 (w : World) (rb : Nat) (hrb : w.heap.size = rb) : ∃ w0, w.alloc (.cells #[.int .i64 0, .int .i64 0, .int .i64 0, .int .i64 0] 170) = w0 ∧ Below rb w w0 ∧ w0.heap.size = rb + 1 ∧ ∀ W, Below w0.heap.size w0 W → ∀ v0 v1 v2 v3 : Value,
    ((W.cell? ⟨rb, 0, none⟩ = some (.int .i64 0) ∧ W.cell? ⟨rb, 1, none⟩ = some (.int .i64 0) ∧ W.cell? ⟨rb, 2, none⟩ = some (.int .i64 0) ∧ W.cell? ⟨rb, 3, none⟩ = some (.int .i64 0)) ∧ W.frozen? ⟨rb, 0, none⟩ = false ∧ W.frozen? ⟨rb, 1, none⟩ = false ∧ W.frozen? ⟨rb, 2, none⟩ = false ∧ W.frozen? ⟨rb, 3, none⟩ = false) ∧ ((put4 W rb v0 v1 v2 v3).cell? ⟨rb, 0, none⟩ = some v0 ∧ (put4 W rb v0 v1 v2 v3).cell? ⟨rb, 1, none⟩ = some v1 ∧ (put4 W rb v0 v1 v2 v3).cell? ⟨rb, 2, none⟩ = some v2 ∧ (put4 W rb v0 v1 v2 v3).cell? ⟨rb, 3, none⟩ = some v3) ∧ Below rb w (put4 W rb v0 v1 v2 v3) ∧ W.heap.size = (put4 W rb v0 v1 v2 v3).heap.size := by
  subst hrb
  refine ⟨_, rfl, (Below.refl _ _).alloc (Nat.le_refl _) _, by simp, fun W hb v0 v1 v2 v3 => ?_⟩
  have e : W.heap[w.heap.size]? = some (.cells #[.int .i64 0, .int .i64 0, .int .i64 0, .int .i64 0] 170 (0, 0)) := by rw [hb.block w.heap.size (by simp)]; exact heap_alloc_new w _
  have h0 : Below w.heap.size w W := ((Below.refl _ _).alloc (Nat.le_refl _) _).trans (hb.mono (by simp))
  refine ⟨cells4 e, (cells4 (put4_heap e v0 v1 v2 v3)).1, h0.trans (grown_below (put4_grown W w.heap.size v0 v1 v2 v3) (Nat.le_refl _) h0.size), by simp [put4]⟩
theorem cells5 {W : World} {rb : Nat} {v0 v1 v2 v3 v4 : Value} {t : TypeId} (e : W.heap[rb]? = some (.cells #[v0, v1, v2, v3, v4] t (0, 0))) : (W.cell? ⟨rb, 0, none⟩ = some v0 ∧ W.cell? ⟨rb, 1, none⟩ = some v1 ∧ W.cell? ⟨rb, 2, none⟩ = some v2 ∧ W.cell? ⟨rb, 3, none⟩ = some v3 ∧ W.cell? ⟨rb, 4, none⟩ = some v4) ∧ W.frozen? ⟨rb, 0, none⟩ = false ∧ W.frozen? ⟨rb, 1, none⟩ = false ∧ W.frozen? ⟨rb, 2, none⟩ = false ∧ W.frozen? ⟨rb, 3, none⟩ = false ∧ W.frozen? ⟨rb, 4, none⟩ = false := by
  refine ⟨⟨?_, ?_, ?_, ?_, ?_⟩, ?_, ?_, ?_, ?_, ?_⟩
  · simp [World.cell?, e]
  · simp [World.cell?, e]
  · simp [World.cell?, e]
  · simp [World.cell?, e]
  · simp [World.cell?, e]
  · unfold World.frozen?; rw [e]; simp
  · unfold World.frozen?; rw [e]; simp
  · unfold World.frozen?; rw [e]; simp
  · unfold World.frozen?; rw [e]; simp
  · unfold World.frozen?; rw [e]; simp
def put5 (w : World) (rb : Nat) (v0 v1 v2 v3 v4 : Value) : World := (((((w.setCell ⟨rb, 0, none⟩ v0).setCell ⟨rb, 1, none⟩ v1).setCell ⟨rb, 2, none⟩ v2).setCell ⟨rb, 3, none⟩ v3).setCell ⟨rb, 4, none⟩ v4)
theorem put5_heap {w : World} {rb : Nat} {x0 x1 x2 x3 x4 : Value} {t : TypeId} (h : w.heap[rb]? = some (.cells #[x0, x1, x2, x3, x4] t (0, 0))) (v0 v1 v2 v3 v4 : Value) : (put5 w rb v0 v1 v2 v3 v4).heap[rb]? = some (.cells #[v0, v1, v2, v3, v4] t (0, 0)) := by
  simp [put5, World.setCell, Array.getElem?_modify, h]
theorem put5_grown (w : World) (rb : Nat) (v0 v1 v2 v3 v4 : Value) : w.grownBy (put5 w rb v0 v1 v2 v3 v4) (some rb) := by
  unfold put5
  exact grown_trans (grown_trans (grown_trans (grown_trans (grown_set _ _ _ _) (grown_set _ _ _ _)) (grown_set _ _ _ _)) (grown_set _ _ _ _)) (grown_set _ _ _ _)
theorem res5 (w : World) (rb : Nat) (hrb : w.heap.size = rb) : ∃ w0, w.alloc (.cells #[.int .i64 0, .int .i64 0, .int .i64 0, .int .i64 0, .bool false] 105) = w0 ∧ Below rb w w0 ∧ w0.heap.size = rb + 1 ∧ ∀ W, Below w0.heap.size w0 W → ∀ v0 v1 v2 v3 v4 : Value,
    ((W.cell? ⟨rb, 0, none⟩ = some (.int .i64 0) ∧ W.cell? ⟨rb, 1, none⟩ = some (.int .i64 0) ∧ W.cell? ⟨rb, 2, none⟩ = some (.int .i64 0) ∧ W.cell? ⟨rb, 3, none⟩ = some (.int .i64 0) ∧ W.cell? ⟨rb, 4, none⟩ = some (.bool false)) ∧ W.frozen? ⟨rb, 0, none⟩ = false ∧ W.frozen? ⟨rb, 1, none⟩ = false ∧ W.frozen? ⟨rb, 2, none⟩ = false ∧ W.frozen? ⟨rb, 3, none⟩ = false ∧ W.frozen? ⟨rb, 4, none⟩ = false) ∧ ((put5 W rb v0 v1 v2 v3 v4).cell? ⟨rb, 0, none⟩ = some v0 ∧ (put5 W rb v0 v1 v2 v3 v4).cell? ⟨rb, 1, none⟩ = some v1 ∧ (put5 W rb v0 v1 v2 v3 v4).cell? ⟨rb, 2, none⟩ = some v2 ∧ (put5 W rb v0 v1 v2 v3 v4).cell? ⟨rb, 3, none⟩ = some v3 ∧ (put5 W rb v0 v1 v2 v3 v4).cell? ⟨rb, 4, none⟩ = some v4) ∧ Below rb w (put5 W rb v0 v1 v2 v3 v4) ∧ W.heap.size = (put5 W rb v0 v1 v2 v3 v4).heap.size := by
  subst hrb
  refine ⟨_, rfl, (Below.refl _ _).alloc (Nat.le_refl _) _, by simp, fun W hb v0 v1 v2 v3 v4 => ?_⟩
  have e : W.heap[w.heap.size]? = some (.cells #[.int .i64 0, .int .i64 0, .int .i64 0, .int .i64 0, .bool false] 105 (0, 0)) := by rw [hb.block w.heap.size (by simp)]; exact heap_alloc_new w _
  have h0 : Below w.heap.size w W := ((Below.refl _ _).alloc (Nat.le_refl _) _).trans (hb.mono (by simp))
  refine ⟨cells5 e, (cells5 (put5_heap e v0 v1 v2 v3 v4)).1, h0.trans (grown_below (put5_grown W w.heap.size v0 v1 v2 v3 v4) (Nat.le_refl _) h0.size), by simp [put5]⟩
theorem cells9 {W : World} {rb : Nat} {v0 v1 v2 v3 v4 v5 v6 v7 v8 : Value} {t : TypeId} (e : W.heap[rb]? = some (.cells #[v0, v1, v2, v3, v4, v5, v6, v7, v8] t (0, 0))) : (W.cell? ⟨rb, 0, none⟩ = some v0 ∧ W.cell? ⟨rb, 1, none⟩ = some v1 ∧ W.cell? ⟨rb, 2, none⟩ = some v2 ∧ W.cell? ⟨rb, 3, none⟩ = some v3 ∧ W.cell? ⟨rb, 4, none⟩ = some v4 ∧ W.cell? ⟨rb, 5, none⟩ = some v5 ∧ W.cell? ⟨rb, 6, none⟩ = some v6 ∧ W.cell? ⟨rb, 7, none⟩ = some v7 ∧ W.cell? ⟨rb, 8, none⟩ = some v8) ∧ W.frozen? ⟨rb, 0, none⟩ = false ∧ W.frozen? ⟨rb, 1, none⟩ = false ∧ W.frozen? ⟨rb, 2, none⟩ = false ∧ W.frozen? ⟨rb, 3, none⟩ = false ∧ W.frozen? ⟨rb, 4, none⟩ = false ∧ W.frozen? ⟨rb, 5, none⟩ = false ∧ W.frozen? ⟨rb, 6, none⟩ = false ∧ W.frozen? ⟨rb, 7, none⟩ = false ∧ W.frozen? ⟨rb, 8, none⟩ = false := by
  refine ⟨⟨?_, ?_, ?_, ?_, ?_, ?_, ?_, ?_, ?_⟩, ?_, ?_, ?_, ?_, ?_, ?_, ?_, ?_, ?_⟩
  · simp [World.cell?, e]
  · simp [World.cell?, e]
  · simp [World.cell?, e]
  · simp [World.cell?, e]
  · simp [World.cell?, e]
  · simp [World.cell?, e]
  · simp [World.cell?, e]
  · simp [World.cell?, e]
  · simp [World.cell?, e]
  · unfold World.frozen?; rw [e]; simp
  · unfold World.frozen?; rw [e]; simp
  · unfold World.frozen?; rw [e]; simp
  · unfold World.frozen?; rw [e]; simp
  · unfold World.frozen?; rw [e]; simp
  · unfold World.frozen?; rw [e]; simp
  · unfold World.frozen?; rw [e]; simp
  · unfold World.frozen?; rw [e]; simp
  · unfold World.frozen?; rw [e]; simp
def put9 (w : World) (rb : Nat) (v0 v1 v2 v3 v4 v5 v6 v7 v8 : Value) : World := (((((((((w.setCell ⟨rb, 0, none⟩ v0).setCell ⟨rb, 1, none⟩ v1).setCell ⟨rb, 2, none⟩ v2).setCell ⟨rb, 3, none⟩ v3).setCell ⟨rb, 4, none⟩ v4).setCell ⟨rb, 5, none⟩ v5).setCell ⟨rb, 6, none⟩ v6).setCell ⟨rb, 7, none⟩ v7).setCell ⟨rb, 8, none⟩ v8)
theorem put9_heap {w : World} {rb : Nat} {x0 x1 x2 x3 x4 x5 x6 x7 x8 : Value} {t : TypeId} (h : w.heap[rb]? = some (.cells #[x0, x1, x2, x3, x4, x5, x6, x7, x8] t (0, 0))) (v0 v1 v2 v3 v4 v5 v6 v7 v8 : Value) : (put9 w rb v0 v1 v2 v3 v4 v5 v6 v7 v8).heap[rb]? = some (.cells #[v0, v1, v2, v3, v4, v5, v6, v7, v8] t (0, 0)) := by
  simp [put9, World.setCell, Array.getElem?_modify, h]
theorem put9_grown (w : World) (rb : Nat) (v0 v1 v2 v3 v4 v5 v6 v7 v8 : Value) : w.grownBy (put9 w rb v0 v1 v2 v3 v4 v5 v6 v7 v8) (some rb) := by
  unfold put9
  exact grown_trans (grown_trans (grown_trans (grown_trans (grown_trans (grown_trans (grown_trans (grown_trans (grown_set _ _ _ _) (grown_set _ _ _ _)) (grown_set _ _ _ _)) (grown_set _ _ _ _)) (grown_set _ _ _ _)) (grown_set _ _ _ _)) (grown_set _ _ _ _)) (grown_set _ _ _ _)) (grown_set _ _ _ _)
theorem res9 (w : World) (rb : Nat) (hrb : w.heap.size = rb) : ∃ w0, w.alloc (.cells #[.int .i64 0, .int .i64 0, .int .i64 0, .int .i64 0, .bool false, .int .i64 0, .bool false, .int .i64 0, .int .i64 0] 80) = w0 ∧ Below rb w w0 ∧ w0.heap.size = rb + 1 ∧ ∀ W, Below w0.heap.size w0 W → ∀ v0 v1 v2 v3 v4 v5 v6 v7 v8 : Value,
    ((W.cell? ⟨rb, 0, none⟩ = some (.int .i64 0) ∧ W.cell? ⟨rb, 1, none⟩ = some (.int .i64 0) ∧ W.cell? ⟨rb, 2, none⟩ = some (.int .i64 0) ∧ W.cell? ⟨rb, 3, none⟩ = some (.int .i64 0) ∧ W.cell? ⟨rb, 4, none⟩ = some (.bool false) ∧ W.cell? ⟨rb, 5, none⟩ = some (.int .i64 0) ∧ W.cell? ⟨rb, 6, none⟩ = some (.bool false) ∧ W.cell? ⟨rb, 7, none⟩ = some (.int .i64 0) ∧ W.cell? ⟨rb, 8, none⟩ = some (.int .i64 0)) ∧ W.frozen? ⟨rb, 0, none⟩ = false ∧ W.frozen? ⟨rb, 1, none⟩ = false ∧ W.frozen? ⟨rb, 2, none⟩ = false ∧ W.frozen? ⟨rb, 3, none⟩ = false ∧ W.frozen? ⟨rb, 4, none⟩ = false ∧ W.frozen? ⟨rb, 5, none⟩ = false ∧ W.frozen? ⟨rb, 6, none⟩ = false ∧ W.frozen? ⟨rb, 7, none⟩ = false ∧ W.frozen? ⟨rb, 8, none⟩ = false) ∧ ((put9 W rb v0 v1 v2 v3 v4 v5 v6 v7 v8).cell? ⟨rb, 0, none⟩ = some v0 ∧ (put9 W rb v0 v1 v2 v3 v4 v5 v6 v7 v8).cell? ⟨rb, 1, none⟩ = some v1 ∧ (put9 W rb v0 v1 v2 v3 v4 v5 v6 v7 v8).cell? ⟨rb, 2, none⟩ = some v2 ∧ (put9 W rb v0 v1 v2 v3 v4 v5 v6 v7 v8).cell? ⟨rb, 3, none⟩ = some v3 ∧ (put9 W rb v0 v1 v2 v3 v4 v5 v6 v7 v8).cell? ⟨rb, 4, none⟩ = some v4 ∧ (put9 W rb v0 v1 v2 v3 v4 v5 v6 v7 v8).cell? ⟨rb, 5, none⟩ = some v5 ∧ (put9 W rb v0 v1 v2 v3 v4 v5 v6 v7 v8).cell? ⟨rb, 6, none⟩ = some v6 ∧ (put9 W rb v0 v1 v2 v3 v4 v5 v6 v7 v8).cell? ⟨rb, 7, none⟩ = some v7 ∧ (put9 W rb v0 v1 v2 v3 v4 v5 v6 v7 v8).cell? ⟨rb, 8, none⟩ = some v8) ∧ Below rb w (put9 W rb v0 v1 v2 v3 v4 v5 v6 v7 v8) ∧ W.heap.size = (put9 W rb v0 v1 v2 v3 v4 v5 v6 v7 v8).heap.size := by
  subst hrb
  refine ⟨_, rfl, (Below.refl _ _).alloc (Nat.le_refl _) _, by simp, fun W hb v0 v1 v2 v3 v4 v5 v6 v7 v8 => ?_⟩
  have e : W.heap[w.heap.size]? = some (.cells #[.int .i64 0, .int .i64 0, .int .i64 0, .int .i64 0, .bool false, .int .i64 0, .bool false, .int .i64 0, .int .i64 0] 80 (0, 0)) := by rw [hb.block w.heap.size (by simp)]; exact heap_alloc_new w _
  have h0 : Below w.heap.size w W := ((Below.refl _ _).alloc (Nat.le_refl _) _).trans (hb.mono (by simp))
  refine ⟨cells9 e, (cells9 (put9_heap e v0 v1 v2 v3 v4 v5 v6 v7 v8)).1, h0.trans (grown_below (put9_grown W w.heap.size v0 v1 v2 v3 v4 v5 v6 v7 v8) (Nat.le_refl _) h0.size), by simp [put9]⟩
end Go.Proofs.YtcjcdpfjnomehaaGreat

/-
  At which items a line may end, and must: what the program's Forced and Legal and the document's answer.
-/
namespace Go.Proofs.YtcjcdpfjnomehaaGreat
open Go.RowKit
set_option linter.unusedSimpArgs false
set_option linter.unusedVariables false
set_option maxRecDepth 100000 in
set_option maxHeartbeats 1000000 in
theorem forced_any (x : Itm) (w : World) : Calls Tryz.prog 101 #[x.val] w fun e w' => e = .returned (.bool (forc x)) ∧ Below w.heap.size w w' := by
  unfold forc Itm.val
  obtain ⟨k, wd, st, sh, fl, c, fg, fr, to⟩ := x
  simp only
  cases h1 : (k == 3)
  all_goals
    by_cases h2 : c ≤ -10000
    all_goals
      go_enter Tryz.func101, Tryz.ntmps101
      go_wp2
      go_ret
      exact ⟨ret_bool (by simp [h2]), by go_grown⟩
theorem measure_any (n : Int) (w : World) : Calls Tryz.prog 150 #[.int .i64 n] w fun e w' => e = .returned (.bool (ms n)) ∧ w' = w := by
  unfold ms
  by_cases h : 0 ≤ n
  all_goals
    go_enter Tryz.func150, Tryz.ntmps150
    go_wp2
    go_ret
    exact ⟨ret_bool (by first | (simp [h]; done) | (simp [h]; omega)), rfl⟩
end Go.Proofs.YtcjcdpfjnomehaaGreat

/-
  What the program's measured, ofKind, Legal and Right answer, and the document's Legal.
-/
namespace Go.Proofs.YtcjcdpfjnomehaaGreat
open Go.RowKit
set_option linter.unusedSimpArgs false
set_option linter.unusedVariables false
set_option maxRecDepth 100000 in
set_option maxHeartbeats 1000000 in
theorem measured_any (x : Itm) (w : World) : Calls Tryz.prog 102 #[x.val] w fun e w' => e = .returned (.bool (msd x)) ∧ Below w.heap.size w w' := by
  unfold msd Itm.val
  obtain ⟨k, wd, st, sh, fl, c, fg, fr, to⟩ := x
  simp only
  have m1 := fun w => measure_any wd w
  have m2 := fun w => measure_any st w
  have m3 := fun w => measure_any sh w
  cases h1 : ms wd
  · rw [h1] at m1
    go_enter Tryz.func102, Tryz.ntmps102
    go_wp2_with (go_at_call 150; refine (m1 _).mono ?_; rintro e w' ⟨rfl, hw'⟩; subst w')
    go_ret
    exact ⟨rfl, by go_grown⟩
  rw [h1] at m1
  cases h2 : ms st
  · rw [h2] at m2
    go_enter Tryz.func102, Tryz.ntmps102
    go_wp2_with fail
    refine (m1 _).mono ?_
    rintro e w' ⟨rfl, hw'⟩; subst w'
    go_wp2_with (go_at_call 150; refine (m2 _).mono ?_; rintro e w' ⟨rfl, hw'⟩; subst w')
    go_ret
    exact ⟨rfl, by go_grown⟩
  rw [h2] at m2
  cases h3 : ms sh
  all_goals
    rw [h3] at m3
    by_cases h4 : sh ≤ wd
    all_goals
      go_enter Tryz.func102, Tryz.ntmps102
      go_wp2_with fail
      refine (m1 _).mono ?_
      rintro e w' ⟨rfl, hw'⟩; subst w'
      go_wp2_with fail
      refine (m2 _).mono ?_
      rintro e w' ⟨rfl, hw'⟩; subst w'
      go_wp2_with (go_at_call 150; refine (m3 _).mono ?_; rintro e w' ⟨rfl, hw'⟩; subst w')
      go_ret
      exact ⟨ret_bool (by simp [h4]), by go_grown⟩
set_option maxRecDepth 100000 in
set_option maxHeartbeats 2000000 in
theorem ofKind_any (x : Itm) (w : World) : Calls Tryz.prog 103 #[x.val] w fun e w' => e = .returned (.bool (ofk x)) ∧ Below w.heap.size w w' := by
  unfold Itm.val
  have HV : Box (ofk x = ofk x) := boxed rfl
  generalize hV : ofk x = V at *
  unfold ofk at hV
  obtain ⟨k, wd, st, sh, fl, c, fg, fr, to⟩ := x
  simp only at *
  by_cases k1 : k = 1
  · subst k1
    rw [if_pos rfl] at hV
    subst hV
    cases h1 : (st == 0)
    all_goals
      cases h2 : (sh == 0)
      all_goals
        cases h3 : (c == 0)
        all_goals
          cases fl
          all_goals
            go_enter Tryz.func103, Tryz.ntmps103
            go_wp2
            go_ret
            exact ⟨ret_bool (by simp), by go_grown⟩
  by_cases k2 : k = 2
  · subst k2
    rw [if_neg (by omega), if_pos rfl] at hV
    subst hV
    cases h3 : (c == 0)
    all_goals
      cases fg
      all_goals
        cases fl
        all_goals
          cases h2 : (wd == 0)
          all_goals
            go_enter Tryz.func103, Tryz.ntmps103
            go_wp2
            go_ret
            exact ⟨ret_bool (by simp), by go_grown⟩
  by_cases k3 : k = 3
  · subst k3
    rw [if_neg (by omega), if_neg (by omega), if_pos rfl] at hV
    subst hV
    cases h1 : (st == 0)
    all_goals
      cases h2 : (sh == 0)
      all_goals
        cases fl
        all_goals
          by_cases h4 : -10000 ≤ c
          all_goals
            go_enter Tryz.func103, Tryz.ntmps103
            go_wp2
            go_ret
            exact ⟨ret_bool (by first | (simp [h4]; done) | (simp [h4]; omega)), by go_grown⟩
  rw [if_neg k1, if_neg k2, if_neg k3] at hV
  subst hV
  have t1 : (k == 1) = false := by simpa using k1
  have t2 : (k == 2) = false := by simpa using k2
  have t3 : (k == 3) = false := by simpa using k3
  go_enter Tryz.func103, Tryz.ntmps103
  go_wp2
  go_ret
  exact ⟨rfl, by go_grown⟩
end Go.Proofs.YtcjcdpfjnomehaaGreat

/-
  What the program's Right answers: may items be a paragraph's?
-/
namespace Go.Proofs.YtcjcdpfjnomehaaGreat
open Go.RowKit
set_option linter.unusedSimpArgs false
set_option linter.unusedVariables false
theorem okI_iff (I : Nat → Itm) (i : Nat) : okI I i = true ↔ ((I i).fr = pto I i ∧ (I i).fr ≤ (I i).to ∧ (I i).to ≤ 65536 ∧ msd (I i) = true ∧ ofk (I i) = true) := by
  simp [okI, and_assoc]
def rcode (b : Bool) : Int := if b = true then 0 else 70
set_option maxRecDepth 100000 in
set_option maxHeartbeats 4000000 in
theorem right_any (S : Nat → Prop) (ao : Option Addr) (n cap : Nat) (I : Nat → Itm) (w : World) (h : ItsAt S w ao n I) (hn : n ≤ maxLen) :
    Calls Tryz.prog 58 #[.slice ao n cap] w fun e w' => e = .returned (.int .i64 (rcode (rgt I n))) ∧ Below w.heap.size w w' := by
  unfold maxLen at hn
  have HT : Box (0 < n ∧ n ≤ 262144 ∧ forc (I (n - 1)) = true ∧ (∀ i, i < n → okI I i = true) → rcode (rgt I n) = 0) := boxed (fun c => by rw [(rgt_iff I n).2 c]; rfl)
  have HFl : Box (¬ (0 < n ∧ n ≤ 262144 ∧ forc (I (n - 1)) = true ∧ ∀ i, i < n → okI I i = true) → rcode (rgt I n) = 70) := boxed (fun c => by rw [rgt_no I n c]; rfl)
  generalize rcode (rgt I n) = V at *
  by_cases h0 : n = 0
  · have HV := boxed (HFl.out (by omega))
    subst h0
    clear h
    go_enter Tryz.func58, Tryz.ntmps58
    go_wp2
    go_ret
    exact ⟨ret_int HV.out.symm, Below.refl _ _⟩
  have t0 : ((n : Int) == 0) = false := by rw [beq_eq_false_iff_ne]; omega
  by_cases h1 : 262144 < n
  · have HV := boxed (HFl.out (by omega))
    have t1 : decide ((262144 : Int) < (n : Int)) = true := decide_eq_true (by omega)
    clear h h1 h0
    go_enter Tryz.func58, Tryz.ntmps58
    go_wp2
    go_ret
    exact ⟨ret_int HV.out.symm, Below.refl _ _⟩
  have t1 : decide ((262144 : Int) < (n : Int)) = false := decide_eq_false (by omega)
  obtain ⟨m, hnm⟩ : ∃ m, n - 1 = m := ⟨_, rfl⟩
  rw [hnm] at HT HFl
  have HH := boxed h
  have hm1 : m < n := by omega
  have hm2 : (m : Int) < (n : Int) := by omega
  have e6 : (n : Int) - 1 = (m : Nat) := by omega
  have hn2 : n ≤ 262144 := by omega
  obtain ⟨b, off, e, -, c0, c1, c2, c3, c4, c5, c6, c7, c8⟩ := h m (by omega)
  subst e
  have q2 : b < w.heap.size := World.block_lt_of_cell? w _ c0
  have q4 : b ≠ w.heap.size := by omega
  have hfc := fun w => forced_any (I m) w
  unfold Itm.val at hfc
  have HN := boxed (And.intro hnm hn2)
  clear h h1 h0 hnm hn2
  cases hf : forc (I m)
  · have HV := boxed (HFl.out (by rw [hf]; simp))
    rw [hf] at hfc
    generalize I m = x at *
    go_enter Tryz.func58, Tryz.ntmps58
    go_wp2_with fail
    refine (hfc _).mono ?_
    rintro e w1 ⟨rfl, hb1⟩
    have HB1 := boxed hb1
    clear hb1 hfc
    go_wp2
    go_ret
    exact ⟨ret_int HV.out.symm, HB1.out⟩
  · rw [hf] at hfc HT HFl
    generalize I m = x at hfc c0 c1 c2 c3 c4 c5 c6 c7 c8
    go_enter Tryz.func58, Tryz.ntmps58
    go_wp2_with fail
    refine (hfc _).mono ?_
    rintro e w1 ⟨rfl, hb1⟩
    have HB1 := boxed hb1
    clear hb1 hfc c0 c1 c2 c3 c4 c5 c6 c7 c8
    go_wp2
    go_loopw [3, 5, 26] (fun a _ i wr => ∃ k : Nat, k ≤ n ∧ a = .int .i64 (pto I k) ∧ i = .int .i64 (k : Int) ∧ Box (∀ j, j < k → okI I j = true) ∧ Box (Below w.heap.size w wr)) (fun _ _ i _ => n - (intOf i).toNat)
    case atStart => exact ⟨0, Nat.zero_le _, rfl, rfl, boxed (fun j hj => by omega), HB1⟩
    case round =>
      obtain ⟨k, hk, rfl, rfl, HK, HB⟩ := hrel
      by_cases hlt : k < n
      · obtain ⟨b, off, e, -, c0, c1, c2, c3, c4, c5, c6, c7, c8⟩ := (HH.out.below HB.out) k hlt
        injection e with e
        injection e with e1 e2
        subst e1; subst e2
        have q5 : b < wr.heap.size := World.block_lt_of_cell? wr _ c0
        have q6 : b ≠ wr.heap.size := by omega
        have t3 : decide ((k : Int) < (n : Int)) = true := decide_eq_true (by omega)
        have HP : Box (pto I (k + 1) = (I k).to) := boxed (by unfold pto; simp)
        have HO := boxed (okI_iff I k)
        have HBad : Box (okI I k = false → V = 70) := boxed (fun c => HFl.out (fun ⟨_, _, _, h⟩ => by have := h k hlt; rw [c] at this; cases this))
        have HNx : Box (okI I k = true → ∀ j, j < k + 1 → okI I j = true) := boxed (fun c j hj => by
          by_cases d : j = k
          · subst d; exact c
          · exact HK.out j (by omega))
        have hms := fun w => measured_any (I k) w
        have hok := fun w => ofKind_any (I k) w
        unfold Itm.val at hms hok
        generalize okI I k = OK at *
        generalize pto I k = A at *
        generalize msd (I k) = M at *
        generalize ofk (I k) = T at *
        generalize I k = x at *
        have bad : ¬ (x.fr = A ∧ x.fr ≤ x.to ∧ x.to ≤ 65536 ∧ M = true ∧ T = true) → V = 70 := fun c => HBad.out (by
          cases e : OK with
          | false => rfl
          | true => exact absurd (HO.out.1 e) c)
        replace bad := boxed bad
        by_cases g1 : x.fr = A
        rotate_left
        · have t4 : (x.fr != A) = true := by simpa using g1
          have HV := boxed (bad.out (fun c => g1 c.1))
          clear g1 hms hok
          go_wp2
          go_ret
          exact ⟨ret_int HV.out.symm, by have hb := HB.out; have hz := HB.out.size; go_grown⟩
        have t4 : (x.fr != A) = false := by simpa using g1
        by_cases g2 : x.to < x.fr
        · have t5 : decide (x.to < x.fr) = true := decide_eq_true g2
          have HV := boxed (bad.out (fun c => by omega))
          clear g1 g2 hms hok
          go_wp2
          go_ret
          exact ⟨ret_int HV.out.symm, by have hb := HB.out; have hz := HB.out.size; go_grown⟩
        have t5 : decide (x.to < x.fr) = false := decide_eq_false g2
        by_cases g3 : 65536 < x.to
        · have t6 : decide (65536 < x.to) = true := decide_eq_true g3
          have HV := boxed (bad.out (fun c => by omega))
          clear g1 g2 g3 hms hok
          go_wp2
          go_ret
          exact ⟨ret_int HV.out.symm, by have hb := HB.out; have hz := HB.out.size; go_grown⟩
        have t6 : decide (65536 < x.to) = false := decide_eq_false g3
        have HG := boxed (And.intro g1 (And.intro (show x.fr ≤ x.to by omega) (show x.to ≤ 65536 by omega)))
        clear g1 g2 g3
        have HB2 : Box (Below w.heap.size w (wr.alloc (.cells #[.int .i64 x.k, .int .i64 x.w, .int .i64 x.st, .int .i64 x.sh, .bool x.fill, .int .i64 x.c, .bool x.flag, .int .i64 x.fr, .int .i64 x.to] 80))) := boxed (HB.out.alloc HB.out.size _)
        have hx : ∀ (W : World), Below (wr.heap.size + 1) (wr.alloc (.cells #[.int .i64 x.k, .int .i64 x.w, .int .i64 x.st, .int .i64 x.sh, .bool x.fill, .int .i64 x.c, .bool x.flag, .int .i64 x.fr, .int .i64 x.to] 80)) W → ∀ j, W.cell? ⟨wr.heap.size, j, none⟩ = (#[.int .i64 x.k, .int .i64 x.w, .int .i64 x.st, .int .i64 x.sh, .bool x.fill, .int .i64 x.c, .bool x.flag, .int .i64 x.fr, .int .i64 x.to] : Array Value)[j]? := by
          intro W hb j
          rw [hb.cell (p := ⟨wr.heap.size, j, none⟩) (by simp)]
          exact cell_first _ _ _ _
        replace hx := boxed hx
        cases M
        · have HV := boxed (bad.out (fun c => by cases c.2.2.2.1))
          go_wp2_with fail
          refine (hms _).mono ?_
          rintro e w2 ⟨rfl, hb2⟩
          have HB3 := boxed (below_step HB2.out (Nat.le_refl _) hb2)
          clear hb2 hms
          go_wp2
          go_ret
          exact ⟨ret_int HV.out.symm, HB3.out⟩
        · go_wp2_with fail
          refine (hms _).mono ?_
          rintro e w2 ⟨rfl, hb2⟩
          have HB3 := boxed (below_step HB2.out (Nat.le_refl _) hb2)
          have hx2 := hx.out w2 (by simpa using hb2)
          have hz2 : wr.heap.size < w2.heap.size := by have := hb2.size; simp at this; omega
          have d0 := hx2 0
          have d1 := hx2 1
          have d2 := hx2 2
          have d3 := hx2 3
          have d4 := hx2 4
          have d5 := hx2 5
          have d6 := hx2 6
          have d7 := hx2 7
          have d8 := hx2 8
          simp at d0 d1 d2 d3 d4 d5 d6 d7 d8
          clear hms c0 c1 c2 c3 c4 c5 c6 c7 c8 hx2
          go_wp2_with fail
          refine (hok _).mono ?_
          rintro e w3 ⟨rfl, hb3⟩
          have HB4 := boxed (below_step HB3.out (Nat.le_refl _) hb3)
          have d9 := hold hb3 d8
          clear hok hb2 hb3
          cases T
          · have HV := boxed (bad.out (fun c => by cases c.2.2.2.2))
            go_wp2
            go_ret
            exact ⟨ret_int HV.out.symm, HB4.out⟩
          · have HN1 := boxed (HNx.out (HO.out.2 ⟨HG.out.1, HG.out.2.1, HG.out.2.2, by simp, by simp⟩))
            go_wp2
            go_roundw
            case rel => exact ⟨k + 1, by omega, by rw [HP.out], by go_num, HN1, HB4⟩
            case measure => simp [intOf]; omega
      · have e : k = n := by omega
        subst e
        have HV := boxed (HT.out ⟨by omega, HN.out.2, trivial, HK.out⟩)
        go_wp2
        go_ret
        exact ⟨ret_int HV.out.symm, HB.out⟩
end Go.Proofs.YtcjcdpfjnomehaaGreat

/-
  What the program's Legal and the document's answer.
-/
namespace Go.Proofs.YtcjcdpfjnomehaaGreat
open Go.RowKit
set_option linter.unusedSimpArgs false
set_option linter.unusedVariables false
theorem legl_out (I : Nat → Itm) (n : Nat) (k : Int) (h : k < 0 ∨ (n : Int) ≤ k) : legl I n k = false := by
  unfold legl; rw [if_neg (by omega)]
theorem legl_pen (I : Nat → Itm) (n k : Nat) (h : k < n) (hk : (I k).k = 3) : legl I n k = decide ((I k).c < 10000) := by
  unfold legl; rw [if_pos (by omega)]; simp [hk]
theorem legl_no (I : Nat → Itm) (n k : Nat) (h : k < n) (h3 : (I k).k ≠ 3) (h2 : (I k).k ≠ 2) : legl I n k = false := by
  unfold legl; rw [if_pos (by omega)]; simp [h3, h2]
theorem legl_glue (I : Nat → Itm) (n k : Nat) (h : k < n) (h2 : (I k).k = 2) : legl I n k = (!(I k).fill && decide (0 < k) && ((I (k - 1)).k == 1)) := by
  unfold legl; rw [if_pos (by omega)]; simp [h2]
set_option maxRecDepth 100000 in
set_option maxHeartbeats 2000000 in
theorem legal_any (S : Nat → Prop) (ao : Option Addr) (n cap : Nat) (I : Nat → Itm) (w : World) (h : ItsAt S w ao n I) (hn : n ≤ maxLen) (k : Int) :
    Calls Tryz.prog 104 #[.slice ao n cap, .int .i64 k] w fun e w' => e = .returned (.bool (legl I n k)) ∧ Below w.heap.size w w' := by
  unfold maxLen at hn
  by_cases h1 : k < 0
  · have HV := boxed (legl_out I n k (by omega))
    generalize legl I n k = V at *
    have t1 : decide (k < 0) = true := decide_eq_true h1
    clear h
    go_enter Tryz.func104, Tryz.ntmps104
    go_wp2
    go_ret
    exact ⟨ret_bool HV.out.symm, Below.refl _ _⟩
  have t1 : decide (k < 0) = false := decide_eq_false h1
  by_cases h2 : (n : Int) ≤ k
  · have HV := boxed (legl_out I n k (by omega))
    generalize legl I n k = V at *
    have t2 : decide ((n : Int) ≤ k) = true := decide_eq_true h2
    clear h
    go_enter Tryz.func104, Tryz.ntmps104
    go_wp2
    go_ret
    exact ⟨ret_bool HV.out.symm, Below.refl _ _⟩
  obtain ⟨k, rfl⟩ : ∃ j : Nat, k = (j : Int) := ⟨k.toNat, by omega⟩
  have hk : k < n := by omega
  have t2 : decide ((n : Int) ≤ (k : Int)) = false := decide_eq_false h2
  have t2' : decide (n ≤ k) = false := decide_eq_false (by omega)
  obtain ⟨b, off, e, -, c0, c1, c2, c3, c4, c5, c6, c7, c8⟩ := h k hk
  subst e
  have q2 : b < w.heap.size := World.block_lt_of_cell? w _ c0
  have q4 : b ≠ w.heap.size := by omega
  have H3 := boxed (legl_pen I n k hk)
  have H2 := boxed (legl_glue I n k hk)
  have H0 := boxed (legl_no I n k hk)
  have HP : Box (∀ m, k = m + 1 → w.cell? ⟨b, off + m * 9, none⟩ = some (.int .i64 (I m).k)) := boxed (fun m hm => by
    obtain ⟨b', off', e', -, d0, -⟩ := h m (by omega)
    injection e' with e'
    injection e' with e1 e2
    subst e1; subst e2
    exact d0)
  clear h h1 h2
  generalize legl I n k = V at *
  by_cases k3 : (I k).k = 3
  · have HV := boxed (H3.out k3)
    rw [k3] at c0
    clear H3 H2 H0 k3 HP
    generalize I k = x at *
    by_cases hc : x.c < 10000
    all_goals
      go_enter Tryz.func104, Tryz.ntmps104
      go_wp2
      go_ret
      exact ⟨ret_bool (by rw [HV.out]; simp [hc]), by go_grown⟩
  by_cases k2 : (I k).k = 2
  · have HV := boxed (H2.out k2)
    rw [k2] at c0
    clear H3 H2 H0 k3 k2
    generalize I k = x at *
    cases hf : x.fill
    · rw [hf] at c4 HV
      by_cases hz : k = 0
      · have t5 : decide ((0 : Int) < ((k : Nat) : Int)) = false := decide_eq_false (by omega)
        have t6 : decide (0 < k) = false := decide_eq_false (by omega)
        rw [t6] at HV
        clear hz HP
        go_enter Tryz.func104, Tryz.ntmps104
        go_wp2
        go_ret
        exact ⟨ret_bool (by rw [HV.out]; simp), by go_grown⟩
      · obtain ⟨m, rfl⟩ : ∃ m, k = m + 1 := ⟨k - 1, by omega⟩
        have d0 := HP.out m rfl
        rw [show m + 1 - 1 = m from rfl] at HV
        have t5 : decide ((0 : Int) < ((m + 1 : Nat) : Int)) = true := decide_eq_true (by omega)
        have t6 : decide ((0 : Int) < ((m : Nat) : Int) + 1) = true := decide_eq_true (by omega)
        have e6 : ((m + 1 : Nat) : Int) - 1 = (m : Nat) := by omega
        have e7 : ((m : Nat) : Int) + 1 - 1 = (m : Nat) := by omega
        cases hb : ((I m).k == 1)
        all_goals
          rw [hb] at HV
          go_enter Tryz.func104, Tryz.ntmps104
          go_wp2
          go_ret
          exact ⟨ret_bool (by rw [HV.out]; simp), by go_grown⟩
    · rw [hf] at c4 HV
      clear HP
      go_enter Tryz.func104, Tryz.ntmps104
      go_wp2
      go_ret
      exact ⟨ret_bool (by rw [HV.out]; simp), by go_grown⟩
  have HV := boxed (H0.out k3 k2)
  clear H3 H2 H0 HP
  generalize I k = x at *
  have t3 : (x.k == 3) = false := by simpa using k3
  have t4 : (x.k == 2) = false := by simpa using k2
  go_enter Tryz.func104, Tryz.ntmps104
  go_wp2
  go_ret
  exact ⟨ret_bool HV.out.symm, by go_grown⟩
end Go.Proofs.YtcjcdpfjnomehaaGreat

/-
  What the document's Legal answers.
-/
namespace Go.Proofs.YtcjcdpfjnomehaaGreat
open Go.RowKit
set_option linter.unusedSimpArgs false
set_option linter.unusedVariables false
end Go.Proofs.YtcjcdpfjnomehaaGreat
