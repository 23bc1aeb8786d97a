/-
  Paragraphs as they lie in memory: rows of numbers, the program's Index; what last, Size, Count, Open, begin and outside answer.
-/
import Derived.Test.YtholifolkimkdaaGa
import Derived.WalkSpells
import Derived.WalkMore
import Derived.Laws.RangeAny
import Derived.Deep.QuietTactic
import Derived.Deep.RegionHeld3
import Derived.BigQuiet
import Derived.Handy
namespace Go.Proofs.Ytholifolkimkdaa
open Go.RowKit
set_option linter.unusedSimpArgs false
set_option linter.unusedVariables false

theorem ret_int {k : IntKind} {a b : Int} (h : a = b) : Ending.returned (.int k a) = .returned (.int k b) := by rw [h]
theorem ret_bool {a b : Bool} (h : a = b) : Ending.returned (.bool a) = .returned (.bool b) := by rw [h]
theorem ret_two {k k' : IntKind} {a b c d : Int} (h1 : a = c) (h2 : b = d) : Ending.returned (.tuple #[.int k a, .int k' b]) = .returned (.tuple #[.int k c, .int k' d]) := by rw [h1, h2]
theorem bel_drewN (B : Nat) (w : World) (n : Nat) : Below B w (w.drewN n) := ⟨rfl, rfl, rfl, Nat.le_refl _, fun _ _ => rfl⟩
theorem hold {w w' : World} {a : Addr} {v : Value} (hb : Below w.heap.size w w') (h : w.cell? a = some v) : w'.cell? a = some v := by
  rw [hb.cell (World.block_lt_of_cell? w _ h)]; exact h
theorem below_step {B : Nat} {w w1 w2 : World} (h1 : Below B w w1) (hB : B ≤ w.heap.size) (h2 : Below w1.heap.size w1 w2) : Below B w w2 :=
  h1.trans (h2.mono (Nat.le_trans hB h1.size))
theorem cell_new (W : World) (b : Nat) (cs : Array Value) (t : TypeId) (i : Nat) (hb : b = W.heap.size) : (W.alloc (.cells cs t)).cell? ⟨b, i, none⟩ = cs[i]? := by
  subst hb
  exact cell_of_row _ _ i cs t (0, 0) (heap_alloc_new W _)
def I64 (n : Int) : Prop := -9223372036854775808 ≤ n ∧ n ≤ 9223372036854775807
theorem grown_below {w w' : World} {lb B : Nat} (h : w.grownBy w' (some lb)) (hl : B ≤ lb) (hB : B ≤ w.heap.size) : Below B w w' :=
  ⟨h.os, h.tape, h.output, h.size, fun k hk => h.block k (by omega) (fun e => by injection e; omega)⟩
theorem below_grown {w w' : World} (h : Below w.heap.size w w') (row : Option Nat) : w.grownBy w' row := ⟨h.os, h.tape, h.output, h.size, fun k hk _ => h.block k hk⟩
theorem grown_trans {a b c : World} {row : Option Nat} (h : a.grownBy b row) (k : b.grownBy c row) : a.grownBy c row :=
  ⟨k.os.trans h.os, k.tape.trans h.tape, k.output.trans h.output, Nat.le_trans h.size k.size, fun i hi hr => (k.block i (Nat.lt_of_lt_of_le hi h.size) hr).trans (h.block i hi hr)⟩

/-- Numbers as they lie in memory, in blocks that S names. -/
def NAt (S : Nat → Prop) (w : World) (ao : Option Addr) (L : List Nat) : Prop := ∀ i, i < L.length → ∃ b, ao = some ⟨b, 0, none⟩ ∧ S b ∧ w.cell? ⟨b, i, none⟩ = some (.int .i64 (L.getD i 0 : Nat))
/-- What S names, if it is there, is there still, and named. -/
def Kp (S S' : Nat → Prop) (w w' : World) : Prop := ∀ b i u, S b → w.cell? ⟨b, i, none⟩ = some u → S' b ∧ w'.cell? ⟨b, i, none⟩ = some u
theorem kp_below {S : Nat → Prop} {w w' : World} (h : Below w.heap.size w w') : Kp S S w w' := fun b i u hs hc => ⟨hs, hold h hc⟩
theorem kp_grown {S : Nat → Prop} {w w' : World} {lb : Nat} (h : w.grownBy w' (some lb)) (hS : ∀ b, S b → b ≠ lb) : Kp S S w w' := fun b i u hs hc => ⟨hs, by
  have hb := World.block_lt_of_cell? w _ hc
  rw [World.cell?_of_block (a := ⟨b, i, none⟩) (h.block b hb (fun e => hS b hs (by injection e)))]; exact hc⟩
theorem NAt.keep {S S' : Nat → Prop} {w w' : World} {ao : Option Addr} {L : List Nat} (h : NAt S w ao L) (k : Kp S S' w w') : NAt S' w' ao L := by
  intro i hi
  obtain ⟨b, e, hs, c0⟩ := h i hi
  exact ⟨b, e, (k _ _ _ hs c0).1, (k _ _ _ hs c0).2⟩
theorem NAt.below {S : Nat → Prop} {w w' : World} {ao : Option Addr} {L : List Nat} (h : NAt S w ao L) (hb : Below w.heap.size w w') : NAt S w' ao L := h.keep (kp_below hb)
theorem NAt.form {S : Nat → Prop} {w : World} {ao : Option Addr} {L : List Nat} (h : NAt S w ao L) (hn : 0 < L.length) : ∃ b, ao = some ⟨b, 0, none⟩ ∧ S b := by
  obtain ⟨b, e, hs, -⟩ := h 0 hn
  exact ⟨b, e, hs⟩
theorem NAt.get {S : Nat → Prop} {w : World} {b : Nat} {L : List Nat} (h : NAt S w (some ⟨b, 0, none⟩) L) (i : Nat) (hi : i < L.length) : w.cell? ⟨b, i, none⟩ = some (.int .i64 (L.getD i 0 : Nat)) := by
  obtain ⟨b', e, -, c0⟩ := h i hi
  injection e with e
  injection e with e1 e2 e3
  subst e1
  exact c0

/-- The cells of a row of numbers. -/
def ncs (L : List Nat) : List Value := L.map fun n => .int .i64 (n : Nat)
theorem ncs_len (L : List Nat) : (ncs L).length = L.length := by simp [ncs]
theorem ncs_app (L M : List Nat) : ncs (L ++ M) = ncs L ++ ncs M := by simp [ncs]
theorem ncs_one (L : List Nat) : ∀ u ∈ ncs L, u.oneCell' = true := by
  intro u hu
  simp only [ncs, List.mem_map] at hu
  obtain ⟨n, -, rfl⟩ := hu
  rfl
theorem ncs_get (L : List Nat) (i : Nat) (h : i < L.length) : (ncs L)[i]? = some (.int .i64 (L.getD i 0 : Nat)) := by
  simp [ncs, List.getElem?_eq_getElem h]
theorem ownsRow_forms {w : World} {base size n : Nat} {e : TypeId} {v : Value} {xs : List Value} (h : w.ownsRow base e size v n xs) : (v = .slice none 0 0 ∧ n = 0) ∨ ∃ g cap, v = .slice (some ⟨g, 0, none⟩) n cap := by
  rcases h.2 with ⟨h1, h2⟩ | ⟨g, cap, cur, h1, _⟩
  · exact .inl ⟨h1, h2⟩
  · exact .inr ⟨g, cap, h1⟩
theorem owns_below {w w' : World} {B e size n : Nat} {v : Value} {xs : List Value} (h : w.ownsRow B e size v n xs) (hb : Below w.heap.size w w') : w'.ownsRow B e size v n xs :=
  h.kept (row := none) ⟨hb.os, hb.tape, hb.output, hb.size, fun k hk _ => hb.block k hk⟩ (by cases hv : v.ownBlock <;> simp)
theorem own_shape {w : World} {base size n : Nat} {e : TypeId} {v : Value} {xs : List Value} (h : w.ownsRow base e size v n xs) : ∃ ao cap, v = .slice ao n cap := by
  rcases ownsRow_forms h with ⟨g1, g2⟩ | ⟨g, c, g1⟩
  · exact ⟨none, 0, by rw [g2]; exact g1⟩
  · exact ⟨_, _, g1⟩
theorem own_cap {w : World} {base size n : Nat} {e : TypeId} {ao : Option Addr} {m cap : Nat} {xs : List Value} (h : w.ownsRow base e size (.slice ao m cap) n xs) : m ≤ cap := by
  rcases h.2 with ⟨e1, _⟩ | ⟨g, c, cur, e1, _, _, hnc, _⟩
  · injection e1 with a b c; omega
  · injection e1 with a b c; omega
theorem own_nat {w : World} {B : Nat} {ao : Option Addr} {m cap : Nat} {L : List Nat} (h : w.ownsRow B 3 1 (.slice ao m cap) L.length (ncs L)) : NAt (fun b => B ≤ b) w ao L := by
  intro i hi
  rcases ownsRow_forms h with ⟨_, h2⟩ | ⟨g, cap', e⟩
  · omega
  · injection e with e1 e2 e3
    subst e1; subst e2; subst e3
    have hB := h.lt g rfl
    have := h.cellAt i (by omega)
    exact ⟨g, rfl, hB.1, by rw [this, ncs_get L i hi]⟩
theorem info_int : (Try.prog.info? 3).map (fun i => (i.zero, i.size, i.bytes)) = some (some (.int .i64 0), 1, 8) := by kernel_rfl

/-- Where paragraphs of these sizes end. -/
def ens : Nat → List Nat → List Nat
  | _, [] => []
  | a, n :: t => (a + n) :: ens (a + n) t
theorem ens_len (a : Nat) (P : List Nat) : (ens a P).length = P.length := by
  induction P generalizing a with
  | nil => rfl
  | cons n t ih => simp [ens, ih]
theorem ens_app (a : Nat) (P Q : List Nat) : ens a (P ++ Q) = ens a P ++ ens (a + P.sum) Q := by
  induction P generalizing a with
  | nil => simp [ens]
  | cons n t ih => simp [ens, ih, Nat.add_assoc]
theorem ens_get (a : Nat) (P : List Nat) (i : Nat) (h : i < P.length) : (ens a P).getD i 0 = a + Bg P (i + 1) := by
  induction P generalizing a i with
  | nil => simp at h
  | cons n t ih =>
    cases i with
    | zero => simp [ens, Bg]
    | succ i =>
      have := ih (a + n) i (by simpa using h)
      rw [Bg_cons]
      simp only [ens, List.getD_cons_succ]
      omega
/-- The program's Index of paragraphs of the sizes P at xb. -/
structure IxAt (w : World) (xb : Nat) (ao : Option Addr) (cap : Nat) (P : List Nat) (o : Bool) : Prop where
  blk : w.heap[xb]? = some (.cells #[.slice ao P.length cap, .bool o] 59 (0, 0))
  pts : NAt (· ≠ xb) w ao (ens 0 P)
  pos : ∀ n ∈ P, 0 < n
  len : P.sum ≤ 65536
  cap : P.length ≤ cap
section
variable {w w' : World} {xb : Nat} {ao : Option Addr} {cap : Nat} {P : List Nat} {o : Bool}
theorem IxAt.lt (h : IxAt w xb ao cap P o) : xb < w.heap.size := (Array.getElem?_eq_some_iff.1 h.blk).1
theorem IxAt.c0 (h : IxAt w xb ao cap P o) : w.cell? ⟨xb, 0, none⟩ = some (.slice ao P.length cap) := by simp [World.cell?, h.blk]
theorem IxAt.c1 (h : IxAt w xb ao cap P o) : w.cell? ⟨xb, 1, none⟩ = some (.bool o) := by simp [World.cell?, h.blk]
theorem IxAt.fz (h : IxAt w xb ao cap P o) (i : Nat) : w.frozen? ⟨xb, i, none⟩ = false := by unfold World.frozen?; rw [h.blk]; simp
theorem IxAt.below (h : IxAt w xb ao cap P o) (hb : Below w.heap.size w w') : IxAt w' xb ao cap P o := ⟨by rw [hb.block xb h.lt]; exact h.blk, h.pts.below hb, h.pos, h.len, h.cap⟩
theorem IxAt.many (h : IxAt w xb ao cap P o) : P.length ≤ 65536 := Nat.le_trans (pos_len P h.pos) h.len
/-- What last reads. -/
def LastAt (w : World) (ao : Option Addr) (n V : Nat) : Prop := (n = 0 ∧ V = 0) ∨ ∃ m b, n = m + 1 ∧ ao = some ⟨b, 0, none⟩ ∧ w.cell? ⟨b, m, none⟩ = some (.int .i64 (V : Nat))
theorem LastAt.below {n V : Nat} (h : LastAt w ao n V) (hb : Below w.heap.size w w') : LastAt w' ao n V := by
  rcases h with h | ⟨m, b, h1, h2, h3⟩
  · exact .inl h
  · exact .inr ⟨m, b, h1, h2, hold hb h3⟩
theorem NAt.lastAt {S : Nat → Prop} (h : NAt S w ao (ens 0 P)) (p : Nat) (hp : p ≤ P.length) : LastAt w ao p (Bg P p) := by
  cases p with
  | zero => exact .inl ⟨rfl, rfl⟩
  | succ p =>
    obtain ⟨b, e, -, c⟩ := h p (by rw [ens_len]; omega)
    rw [ens_get 0 P p (by omega), Nat.zero_add] at c
    exact .inr ⟨p, b, rfl, e, c⟩

set_option maxRecDepth 100000 in
theorem last_any (ao : Option Addr) (n cap V : Nat) (w : World) (h : LastAt w ao n V) (hn : n ≤ 1048576) :
    Calls Try.prog 38 #[.slice ao n cap] w fun e w' => e = .returned (.int .i64 (V : Nat)) ∧ Below w.heap.size w w' := by
  rcases h with ⟨rfl, rfl⟩ | ⟨m, b, rfl, rfl, c0⟩
  · go_enter Try.func38, Try.ntmps38
    go_wp2
    go_ret
    exact ⟨rfl, Below.refl _ _⟩
  · have z : (((m + 1 : Nat) : Int) == 0) = false := by rw [beq_eq_false_iff_ne]; omega
    go_enter Try.func38, Try.ntmps38
    go_wp2
    go_ret
    exact ⟨rfl, Below.refl _ _⟩

set_option maxRecDepth 100000 in
theorem size_any (h : IxAt w xb ao cap P o) : Calls Try.prog 28 #[.pointer (some ⟨xb, 0, none⟩)] w fun e w' => e = .returned (.int .i64 (P.sum : Nat)) ∧ Below w.heap.size w w' := by
  have hl := h.pts.lastAt P.length (Nat.le_refl _)
  rw [Bg_all P _ (Nat.le_refl _)] at hl
  have hs := last_any ao P.length cap P.sum w hl (by have := h.many; omega)
  have c0 := h.c0
  clear h hl
  go_enter Try.func28, Try.ntmps28
  go_wp2_with fail
  refine hs.mono ?_
  rintro e w1 ⟨rfl, hb1⟩
  go_wp2
  go_ret
  exact ⟨rfl, hb1⟩

set_option maxRecDepth 100000 in
theorem count_any (h : IxAt w xb ao cap P o) : Calls Try.prog 25 #[.pointer (some ⟨xb, 0, none⟩)] w fun e w' => e = .returned (.int .i64 (P.length : Nat)) ∧ w' = w := by
  have c0 := h.c0
  clear h
  go_enter Try.func25, Try.ntmps25
  go_wp2
  go_ret
  exact ⟨rfl, rfl⟩

set_option maxRecDepth 100000 in
theorem open_any (h : IxAt w xb ao cap P o) : Calls Try.prog 26 #[.pointer (some ⟨xb, 0, none⟩)] w fun e w' => e = .returned (.bool o) ∧ w' = w := by
  have c1 := h.c1
  clear h
  go_enter Try.func26, Try.ntmps26
  go_wp2
  go_ret
  exact ⟨rfl, rfl⟩

set_option maxRecDepth 100000 in
theorem begin_any (h : IxAt w xb ao cap P o) (p : Nat) (hp : p ≤ P.length) : Calls Try.prog 33 #[.pointer (some ⟨xb, 0, none⟩), .int .i64 (p : Nat)] w fun e w' => e = .returned (.int .i64 (Bg P p : Nat)) ∧ Below w.heap.size w w' := by
  have hl := h.pts.lastAt p hp
  have hm := h.many
  have hc := h.cap
  have hs := last_any ao p cap (Bg P p) w hl (by omega)
  have c0 := h.c0
  have hf := h.pts.form
  rw [ens_len] at hf
  clear h hl
  generalize Bg P p = V at *
  generalize P.length = n at *
  cases ao with
  | none =>
    have hz : n = 0 := by
      by_cases c : n = 0
      · exact c
      · obtain ⟨b, e, -⟩ := hf (by omega)
        cases e
    clear hf
    subst hz
    obtain rfl : p = 0 := by omega
    go_enter Try.func33, Try.ntmps33
    go_wp2_with fail
    refine hs.mono ?_
    rintro e w1 ⟨rfl, hb1⟩
    go_wp2
    go_ret
    exact ⟨rfl, hb1⟩
  | some ad =>
    clear hf
    go_enter Try.func33, Try.ntmps33
    go_wp2_with fail
    refine hs.mono ?_
    rintro e w1 ⟨rfl, hb1⟩
    go_wp2
    go_ret
    exact ⟨rfl, hb1⟩

/-- Do a and b tell no part of so many? -/
def outb (n : Nat) (a b : Int) : Bool := decide (a < 0) || decide ((n : Int) < b) || decide (b < a)
theorem outb_iff (n : Nat) (a b : Int) : outb n a b = false ↔ 0 ≤ a ∧ a ≤ b ∧ b ≤ (n : Int) := by
  unfold outb; simp; omega

set_option maxRecDepth 100000 in
theorem outside_any (h : IxAt w xb ao cap P o) (a b : Int) : Calls Try.prog 36 #[.pointer (some ⟨xb, 0, none⟩), .int .i64 a, .int .i64 b] w fun e w' => e = .returned (.bool (outb P.sum a b)) ∧ Below w.heap.size w w' := by
  have hs := size_any h
  clear h
  unfold outb
  generalize P.sum = n at *
  by_cases h1 : a < 0
  · clear hs
    go_enter Try.func36, Try.ntmps36
    go_wp2
    go_ret
    exact ⟨by simp [h1], Below.refl _ _⟩
  · go_enter Try.func36, Try.ntmps36
    go_wp2_with (go_at_call 28; refine hs.mono ?_; rintro e w1 ⟨rfl, hb1⟩)
    all_goals go_ret
    all_goals (refine ⟨?_, hb1⟩; refine ret_bool ?_)
    all_goals (clear hs hb1; first | (simp [*]; done) | (rw [decide_eq_false (by omega : ¬ a < 0)]; simp; done) | (simp; omega))
end
end Go.Proofs.Ytholifolkimkdaa
