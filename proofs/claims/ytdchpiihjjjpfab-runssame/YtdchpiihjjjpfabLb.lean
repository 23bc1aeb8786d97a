/-
  Lists of styles as they lie in memory: the program's parts, runs, and the document's numbers; what the program's size, isStyle, Len, Count and outside answer.
-/
import Derived.Test.YtdchpiihjjjpfabLa
import Derived.WalkSpells
import Derived.WalkMore
import Derived.Laws.RangeAny
import Derived.Deep.QuietTactic
import Derived.Deep.RegionHeld3
import Derived.BigQuiet
import Derived.Handy
namespace Go.Proofs.Ytdchpiihjjjpfab
open Go.RowKit
set_option linter.unusedSimpArgs false
set_option linter.unusedVariables false

theorem ret_int {k : IntKind} {a b : Int} (h : a = b) : Ending.returned (.int k a) = .returned (.int k b) := by rw [h]
theorem ret_bool {a b : Bool} (h : a = b) : Ending.returned (.bool a) = .returned (.bool b) := by rw [h]
theorem ret_two {k k' : IntKind} {a b c d : Int} (h1 : a = c) (h2 : b = d) : Ending.returned (.tuple #[.int k a, .int k' b]) = .returned (.tuple #[.int k c, .int k' d]) := by rw [h1, h2]
theorem bel_drewN (B : Nat) (w : World) (n : Nat) : Below B w (w.drewN n) := ⟨rfl, rfl, rfl, Nat.le_refl _, fun _ _ => rfl⟩
theorem hold {w w' : World} {a : Addr} {v : Value} (hb : Below w.heap.size w w') (h : w.cell? a = some v) : w'.cell? a = some v := by
  rw [hb.cell (World.block_lt_of_cell? w _ h)]; exact h
theorem below_step {B : Nat} {w w1 w2 : World} (h1 : Below B w w1) (hB : B ≤ w.heap.size) (h2 : Below w1.heap.size w1 w2) : Below B w w2 :=
  h1.trans (h2.mono (Nat.le_trans hB h1.size))
theorem cell_new (W : World) (b : Nat) (cs : Array Value) (t : TypeId) (i : Nat) (hb : b = W.heap.size) : (W.alloc (.cells cs t)).cell? ⟨b, i, none⟩ = cs[i]? := by
  subst hb
  exact cell_of_row _ _ i cs t (0, 0) (heap_alloc_new W _)
def I64 (n : Int) : Prop := -9223372036854775808 ≤ n ∧ n ≤ 9223372036854775807

/-- Pairs of numbers as they lie in memory, in blocks that S names. -/
def P2At (S : Nat → Prop) (w : World) (ao : Option Addr) (n : Nat) (A Y : Nat → Int) : Prop := ∀ i, i < n → (I64 (A i) ∧ I64 (Y i)) ∧ ∃ b off, ao = some ⟨b, off, none⟩ ∧ S b ∧
    w.cell? ⟨b, off + i * 2, none⟩ = some (.int .i64 (A i)) ∧ w.cell? ⟨b, off + i * 2 + 1, none⟩ = some (.int .i64 (Y i))
/-- Numbers as they lie in memory. -/
def I1At (S : Nat → Prop) (w : World) (ao : Option Addr) (s : List Int) : Prop := ∀ i, i < s.length → ∃ b off, ao = some ⟨b, off, none⟩ ∧ S b ∧ w.cell? ⟨b, off + i, none⟩ = some (.int .i64 (s.getD i 0))
/-- What S names, if it is there, is there still, and named. -/
def Kp (S S' : Nat → Prop) (w w' : World) : Prop := ∀ b i u, S b → w.cell? ⟨b, i, none⟩ = some u → S' b ∧ w'.cell? ⟨b, i, none⟩ = some u
theorem kp_below {S : Nat → Prop} {w w' : World} (h : Below w.heap.size w w') : Kp S S w w' := fun b i u hs hc => ⟨hs, hold h hc⟩
theorem kp_grown {w w' : World} {lb : Nat} (h : w.grownBy w' (some lb)) : Kp (· ≠ lb) (· ≠ lb) w w' := fun b i u hs hc => ⟨hs, by
  have hb := World.block_lt_of_cell? w _ hc
  rw [World.cell?_of_block (a := ⟨b, i, none⟩) (h.block b hb (fun e => hs (by injection e)))]; exact hc⟩
theorem P2At.keep {S S' : Nat → Prop} {w w' : World} {ao : Option Addr} {n : Nat} {A Y : Nat → Int} (h : P2At S w ao n A Y) (k : Kp S S' w w') : P2At S' w' ao n A Y := by
  intro i hi
  obtain ⟨h1, b, off, e, hs, c0, c1⟩ := h i hi
  exact ⟨h1, b, off, e, (k _ _ _ hs c0).1, (k _ _ _ hs c0).2, (k _ _ _ hs c1).2⟩
theorem P2At.form {S : Nat → Prop} {w : World} {ao : Option Addr} {n : Nat} {A Y : Nat → Int} (h : P2At S w ao n A Y) (hn : 0 < n) : ∃ b off, ao = some ⟨b, off, none⟩ ∧ S b := by
  obtain ⟨-, b, off, e, hs, -, -⟩ := h 0 hn
  exact ⟨b, off, e, hs⟩
theorem P2At.get {S : Nat → Prop} {w : World} {b off n : Nat} {A Y : Nat → Int} (h : P2At S w (some ⟨b, off, none⟩) n A Y) (i : Nat) (hi : i < n) : w.cell? ⟨b, off + i * 2, none⟩ = some (.int .i64 (A i)) ∧ w.cell? ⟨b, off + i * 2 + 1, none⟩ = some (.int .i64 (Y i)) := by
  obtain ⟨-, b', off', e, -, c0, c1⟩ := h i hi
  injection e with e
  injection e with e1 e2 e3
  subst e1; subst e2
  exact ⟨c0, c1⟩
theorem I1At.form {S : Nat → Prop} {w : World} {ao : Option Addr} {s : List Int} (h : I1At S w ao s) (hn : 0 < s.length) : ∃ b off, ao = some ⟨b, off, none⟩ ∧ S b := by
  obtain ⟨b, off, e, hs, -⟩ := h 0 hn
  exact ⟨b, off, e, hs⟩
theorem I1At.get {S : Nat → Prop} {w : World} {b off : Nat} {s : List Int} (h : I1At S w (some ⟨b, off, none⟩) s) (i : Nat) (hi : i < s.length) : w.cell? ⟨b, off + i, none⟩ = some (.int .i64 (s.getD i 0)) := by
  obtain ⟨b', off', e, -, c0⟩ := h i hi
  injection e with e
  injection e with e1 e2 e3
  subst e1; subst e2
  exact c0
theorem I1At.keep {S S' : Nat → Prop} {w w' : World} {ao : Option Addr} {s : List Int} (h : I1At S w ao s) (k : Kp S S' w w') : I1At S' w' ao s := by
  intro i hi
  obtain ⟨b, off, e, hs, c0⟩ := h i hi
  exact ⟨b, off, e, (k _ _ _ hs c0).1, (k _ _ _ hs c0).2⟩
theorem P2At.below {S : Nat → Prop} {w w' : World} {ao : Option Addr} {n : Nat} {A Y : Nat → Int} (h : P2At S w ao n A Y) (hb : Below w.heap.size w w') : P2At S w' ao n A Y := h.keep (kp_below hb)
theorem I1At.below {S : Nat → Prop} {w w' : World} {ao : Option Addr} {s : List Int} (h : I1At S w ao s) (hb : Below w.heap.size w w') : I1At S w' ao s := h.keep (kp_below hb)
/-- The program's parts, of the styles s. -/
def PartsAt (S : Nat → Prop) (w : World) (ao : Option Addr) (s : List Int) : Prop := P2At S w ao (enc s).length (fun i => (Bg (enc s) (i + 1) : Nat)) (fun i => Ys (enc s) i)

theorem grown_below {w w' : World} {lb B : Nat} (h : w.grownBy w' (some lb)) (hl : B ≤ lb) (hB : B ≤ w.heap.size) : Below B w w' :=
  ⟨h.os, h.tape, h.output, h.size, fun k hk => h.block k (by omega) (fun e => by injection e; omega)⟩
theorem below_grown {w w' : World} (h : Below w.heap.size w w') (row : Option Nat) : w.grownBy w' row := ⟨h.os, h.tape, h.output, h.size, fun k hk _ => h.block k hk⟩
theorem grown_trans {a b c : World} {row : Option Nat} (h : a.grownBy b row) (k : b.grownBy c row) : a.grownBy c row :=
  ⟨k.os.trans h.os, k.tape.trans h.tape, k.output.trans h.output, Nat.le_trans h.size k.size, fun i hi hr => (k.block i (Nat.lt_of_lt_of_le hi h.size) hr).trans (h.block i hi hr)⟩

/-- The program's list of the styles s at lb. -/
structure ListAt (w : World) (lb : Nat) (ao : Option Addr) (cap : Nat) (s : List Int) (bare : Int) : Prop where
  blk : w.heap[lb]? = some (.cells #[.slice ao (enc s).length cap, .int .i64 bare] 57 (0, 0))
  pts : PartsAt (· ≠ lb) w ao s
  ok : Sok s
  len : s.length ≤ 65536
  bare : 0 ≤ bare ∧ bare < 32
theorem ListAt.lt {w : World} {lb : Nat} {ao : Option Addr} {cap : Nat} {s : List Int} {bare : Int} (h : ListAt w lb ao cap s bare) : lb < w.heap.size := (Array.getElem?_eq_some_iff.1 h.blk).1
theorem ListAt.c0 {w : World} {lb : Nat} {ao : Option Addr} {cap : Nat} {s : List Int} {bare : Int} (h : ListAt w lb ao cap s bare) : w.cell? ⟨lb, 0, none⟩ = some (.slice ao (enc s).length cap) := by simp [World.cell?, h.blk]
theorem ListAt.c1 {w : World} {lb : Nat} {ao : Option Addr} {cap : Nat} {s : List Int} {bare : Int} (h : ListAt w lb ao cap s bare) : w.cell? ⟨lb, 1, none⟩ = some (.int .i64 bare) := by simp [World.cell?, h.blk]
theorem ListAt.fz {w : World} {lb : Nat} {ao : Option Addr} {cap : Nat} {s : List Int} {bare : Int} (h : ListAt w lb ao cap s bare) (i : Nat) : w.frozen? ⟨lb, i, none⟩ = false := by
  unfold World.frozen?; rw [h.blk]; simp
theorem ListAt.below {w w' : World} {lb : Nat} {ao : Option Addr} {cap : Nat} {s : List Int} {bare : Int} (h : ListAt w lb ao cap s bare) (hb : Below w.heap.size w w') : ListAt w' lb ao cap s bare :=
  ⟨by rw [hb.block lb h.lt]; exact h.blk, h.pts.below hb, h.ok, h.len, h.bare⟩

set_option maxRecDepth 100000 in
theorem size_any (S : Nat → Prop) (ao : Option Addr) (cap : Nat) (s : List Int) (w : World) (h : PartsAt S w ao s) (hl : s.length ≤ 8589934592) :
    Calls Try.prog 22 #[.slice ao (enc s).length cap] w fun e w' => e = .returned (.int .i64 (s.length : Nat)) ∧ Below w.heap.size w w' := by
  have hle := enc_len s
  by_cases c : (enc s).length = 0
  · have hz := (enc_nil s).1 c
    rw [c, hz]
    clear h hle c hz hl
    go_enter Try.func22, Try.ntmps22
    go_wp2
    go_ret
    exact ⟨rfl, Below.refl _ _⟩
  · obtain ⟨n, hn⟩ : ∃ n, (enc s).length = n + 1 := ⟨(enc s).length - 1, by omega⟩
    obtain ⟨-, b, off, rfl, -, c0, -⟩ := h n (by omega)
    have e : Bg (enc s) (n + 1) = s.length := by rw [Bg_all _ _ (by omega), sm_enc]
    simp only [e] at c0
    clear h e c
    rw [hn]
    have z : (((n + 1 : Nat) : Int) == 0) = false := by rw [beq_eq_false_iff_ne]; omega
    generalize s.length = L at *
    generalize (enc s).length = M at *
    subst hn
    go_enter Try.func22, Try.ntmps22
    go_wp2
    go_ret
    exact ⟨rfl, Below.refl _ _⟩

/-- May a style be? -/
def stb (y : Int) : Bool := decide (0 ≤ y) && decide (y < 32)
theorem stb_iff (y : Int) : stb y = true ↔ 0 ≤ y ∧ y < 32 := by simp [stb]
theorem isStyle_any (n : Int) (w : World) : Calls Try.prog 23 #[.int .i64 n] w fun e w' => e = .returned (.bool (stb n)) ∧ w' = w := by
  unfold stb
  by_cases h : 0 ≤ n
  · go_enter Try.func23, Try.ntmps23
    go_wp2
    go_ret
    exact ⟨by first | (simp [h]; done) | (simp [h]; omega), rfl⟩
  · go_enter Try.func23, Try.ntmps23
    go_wp2
    go_ret
    exact ⟨by first | (simp [h]; done) | (simp [h]; omega), rfl⟩
theorem style_any (n : Int) (w : World) : Calls Try.prog 16 #[.int .i64 n] w fun e w' => e = .returned (.bool (stb n)) ∧ w' = w := by
  unfold stb
  by_cases h : 0 ≤ n
  · go_enter Try.func16, Try.ntmps16
    go_wp2
    go_ret
    exact ⟨by first | (simp [h]; done) | (simp [h]; omega), rfl⟩
  · go_enter Try.func16, Try.ntmps16
    go_wp2
    go_ret
    exact ⟨by first | (simp [h]; done) | (simp [h]; omega), rfl⟩

section
variable {w : World} {lb : Nat} {ao : Option Addr} {cap : Nat} {s : List Int} {bare : Int}

set_option maxRecDepth 100000 in
theorem len_any (h : ListAt w lb ao cap s bare) : Calls Try.prog 12 #[.pointer (some ⟨lb, 0, none⟩)] w fun e w' => e = .returned (.int .i64 (s.length : Nat)) ∧ Below w.heap.size w w' := by
  have hs := fun w' (hb : Below w.heap.size w w') => size_any (· ≠ lb) ao cap s w' (h.pts.below hb) (by have := h.len; omega)
  have c0 := h.c0
  clear h
  go_enter Try.func12, Try.ntmps12
  go_wp2_with fail
  refine (hs _ (Below.refl _ _)).mono ?_
  rintro e w1 ⟨rfl, hb1⟩
  go_wp2
  go_ret
  exact ⟨rfl, hb1⟩

/-- Do a and b tell no part of so many? -/
def outb (n : Nat) (a b : Int) : Bool := decide (a < 0) || decide ((n : Int) < b) || decide (b < a)
theorem outb_iff (n : Nat) (a b : Int) : outb n a b = false ↔ 0 ≤ a ∧ a ≤ b ∧ b ≤ (n : Int) := by
  unfold outb; simp; omega

set_option maxRecDepth 100000 in
theorem outside_any (h : ListAt w lb ao cap s bare) (a b : Int) : Calls Try.prog 20 #[.pointer (some ⟨lb, 0, none⟩), .int .i64 a, .int .i64 b] w fun e w' => e = .returned (.bool (outb s.length a b)) ∧ Below w.heap.size w w' := by
  have hs := len_any h
  clear h
  unfold outb
  generalize s.length = n at *
  by_cases h1 : a < 0
  · clear hs
    go_enter Try.func20, Try.ntmps20
    go_wp2
    go_ret
    exact ⟨by simp [h1], Below.refl _ _⟩
  · go_enter Try.func20, Try.ntmps20
    go_wp2_with (go_at_call 12; refine hs.mono ?_; rintro e w1 ⟨rfl, hb1⟩)
    all_goals go_ret
    all_goals (refine ⟨?_, hb1⟩; refine ret_bool ?_)
    all_goals (clear hs hb1; first | (simp [*]; done) | (rw [decide_eq_false (by omega : ¬ a < 0)]; simp; done) | (simp; omega))
end
end Go.Proofs.Ytdchpiihjjjpfab
