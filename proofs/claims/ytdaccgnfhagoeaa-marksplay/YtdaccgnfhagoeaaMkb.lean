/-
  Marks as they lie in memory: a row of one's own, the program's set, the document's set; the means of the walks.
-/
import Derived.Test.YtdaccgnfhagoeaaMka
import Derived.Below
import Derived.WalkSpells
import Derived.WalkMore
import Derived.Laws.RangeAny
import Derived.Deep.QuietTactic
import Derived.Deep.RegionHeld3
import Derived.BigQuiet
import Derived.Handy
import Derived.Laws.AppendOwnNone
import Derived.Laws.StructEq
import Derived.Deep.AppendLies
import Derived.Lib.SliceRun
import Derived.Laws.MakeOwn
import Derived.Lib.QuietBelow
import Derived.Deep.Cut
namespace Go.Proofs.Ytdaccgnfhagoeaa
open Go.RowKit
set_option linter.unusedSimpArgs false
set_option linter.unusedVariables false

theorem ret_int {k : IntKind} {a b : Int} (h : a = b) : Ending.returned (.int k a) = .returned (.int k b) := by rw [h]
theorem ret_bool {a b : Bool} (h : a = b) : Ending.returned (.bool a) = .returned (.bool b) := by rw [h]
theorem bel_drewN (B : Nat) (w : World) (n : Nat) : Below B w (w.drewN n) := ⟨rfl, rfl, rfl, Nat.le_refl _, fun _ _ => rfl⟩
theorem hold {w w' : World} {a : Addr} {v : Value} (hb : Below w.heap.size w w') (h : w.cell? a = some v) : w'.cell? a = some v := by
  rw [hb.cell (World.block_lt_of_cell? w _ h)]; exact h
theorem below_step {B : Nat} {w w1 w2 : World} (h1 : Below B w w1) (hB : B ≤ w.heap.size) (h2 : Below w1.heap.size w1 w2) : Below B w w2 :=
  h1.trans (h2.mono (Nat.le_trans hB h1.size))
theorem cell_first (w : World) (cs : Array Value) (t : TypeId) (i : Nat) : (w.alloc (.cells cs t)).cell? ⟨w.heap.size, i, none⟩ = cs[i]? := by
  rw [cell_of_row _ _ _ _ _ _ (heap_alloc_new w (.cells cs t))]
theorem kept_first {w w2 : World} {cs : Array Value} {t : TypeId} (hb : Below (w.alloc (.cells cs t)).heap.size (w.alloc (.cells cs t)) w2) (j : Nat) : w2.cell? ⟨w.heap.size, j, none⟩ = cs[j]? := by
  rw [hb.cell (p := ⟨w.heap.size, j, none⟩) (by simp)]
  exact cell_first _ _ _ _
theorem kept_below {B : Nat} {w w1 w2 : World} {o : Obj} (h1 : Below B w w1) (hB : B ≤ w.heap.size) (hb : Below (w1.alloc o).heap.size (w1.alloc o) w2) : Below B w w2 := by
  have hz := Nat.le_trans hB h1.size
  exact (h1.alloc hz _).trans (hb.mono (by simp; omega))
/-- What S names, if it is there, is there still, and named. -/
def Kp (S S' : Nat → Prop) (w w' : World) : Prop := ∀ b i u, S b → w.cell? ⟨b, i, none⟩ = some u → S' b ∧ w'.cell? ⟨b, i, none⟩ = some u
theorem kp_below {S : Nat → Prop} {w w' : World} (h : Below w.heap.size w w') : Kp S S w w' := fun b i u hs hc => ⟨hs, hold h hc⟩
theorem ownsRow_forms {w : World} {base size n : Nat} {e : TypeId} {v : Value} {xs : List Value} (h : w.ownsRow base e size v n xs) : (v = .slice none 0 0 ∧ n = 0) ∨ ∃ g cap, v = .slice (some ⟨g, 0, none⟩) n cap := by
  rcases h.2 with ⟨h1, h2⟩ | ⟨g, cap, cur, h1, _⟩
  · exact .inl ⟨h1, h2⟩
  · exact .inr ⟨g, cap, h1⟩
theorem own_shape {w : World} {base size n : Nat} {e : TypeId} {v : Value} {xs : List Value} (h : w.ownsRow base e size v n xs) : ∃ ao cap, v = .slice ao n cap := by
  rcases ownsRow_forms h with ⟨g1, g2⟩ | ⟨g, cap, g1⟩
  · exact ⟨none, 0, by rw [g2]; exact g1⟩
  · exact ⟨_, _, g1⟩
theorem owns_below {w w' : World} {B e size n : Nat} {v : Value} {xs : List Value} (h : w.ownsRow B e size v n xs) (hb : Below w.heap.size w w') : w'.ownsRow B e size v n xs :=
  h.kept (row := none) ⟨hb.os, hb.tape, hb.output, hb.size, fun k hk _ => hb.block k hk⟩ (by cases hv : v.ownBlock <;> simp)
theorem owns_ge {w : World} {B e size n : Nat} {v : Value} {xs : List Value} (h : w.ownsRow B e size v n xs) : ∀ r, v.ownBlock = some r → B ≤ r := fun r e => (h.lt r e).1
theorem own_down {w : World} {B B' e size n : Nat} {v : Value} {xs : List Value} (h : w.ownsRow B e size v n xs) (hB : B' ≤ B) : w.ownsRow B' e size v n xs :=
  ⟨h.1, h.2.imp id (fun ⟨g, c, cu, x1, x2, x3⟩ => ⟨g, c, cu, x1, Nat.le_trans hB x2, x3⟩)⟩
theorem grown_below {w w' : World} {lb B : Nat} (h : w.grownBy w' (some lb)) (hl : B ≤ lb) (hB : B ≤ w.heap.size) : Below B w w' :=
  ⟨h.os, h.tape, h.output, h.size, fun k hk => h.block k (by omega) (fun e => by injection e; omega)⟩
theorem grown_trans {a b c : World} {row : Option Nat} (h : a.grownBy b row) (k : b.grownBy c row) : a.grownBy c row :=
  ⟨k.os.trans h.os, k.tape.trans h.tape, k.output.trans h.output, Nat.le_trans h.size k.size, fun i hi hr => (k.block i (Nat.lt_of_lt_of_le hi h.size) hr).trans (h.block i hi hr)⟩
theorem grown_set (w : World) (b i : Nat) (u : Value) : w.grownBy (w.setCell ⟨b, i, none⟩ u) (some b) :=
  ⟨rfl, rfl, rfl, by simp, fun k _ hk => heap_setCell_other w ⟨b, i, none⟩ k u (fun e => hk (by simp [e]))⟩
theorem arr_at {W : World} {G k : Nat} {arr : Array Value} {t : TypeId} (e : W.heap[G]? = some (.cells arr t (0, 0))) (hk : k < arr.size) : W.cell? ⟨G, k, none⟩ = some arr[k] ∧ W.frozen? ⟨G, k, none⟩ = false := by
  refine ⟨?_, ?_⟩
  · rw [cell_of_row W G k arr t (0, 0) e]; simp [hk]
  · unfold World.frozen?; rw [e]; simp
theorem arr_set {W : World} {G k : Nat} {arr : Array Value} {t : TypeId} (v : Value) (e : W.heap[G]? = some (.cells arr t (0, 0))) : (W.setCell ⟨G, k, none⟩ v).heap[G]? = some (.cells (arr.setIfInBounds k v) t (0, 0)) := by
  simp [World.setCell, Array.getElem?_modify, e]
theorem row_free {W : World} {b : Nat} {arr : Array Value} {t : TypeId} (e : W.heap[b]? = some (.cells arr t (0, 0))) (k : Nat) : W.frozen? ⟨b, k, none⟩ = false := by
  unfold World.frozen?; rw [e]; simp
theorem heap_lt {w : World} {b : Nat} {o : Obj} (h : w.heap[b]? = some o) : b < w.heap.size := by
  by_cases c : b < w.heap.size
  · exact c
  · rw [Array.getElem?_eq_none (by omega)] at h; cases h
theorem laid1 (w : World) (A : Obj) : (w.alloc A).heap[w.heap.size]? = some A ∧ Below w.heap.size w (w.alloc A) ∧ (w.alloc A).heap.size = w.heap.size + 1 :=
  ⟨heap_alloc_new w A, (Below.refl _ _).alloc (Nat.le_refl _) _, by simp⟩
theorem laid2 (w : World) (A B : Obj) : ((w.alloc A).alloc B).heap[w.heap.size]? = some A ∧ ((w.alloc A).alloc B).heap[w.heap.size + 1]? = some B ∧ Below w.heap.size w ((w.alloc A).alloc B) ∧ ((w.alloc A).alloc B).heap.size = w.heap.size + 2 := by
  refine ⟨?_, ?_, ?_, by simp⟩
  · rw [Below.heap_alloc _ _ _ (by simp)]; exact heap_alloc_new w A
  · have := heap_alloc_new (w.alloc A) B
    simpa using this
  · exact ((Below.refl _ _).alloc (Nat.le_refl _) _).alloc (by simp) _
/-- What lies in blocks that D does not name is as it was. -/
structure Chg (D : Nat → Prop) (w w' : World) : Prop where
  os : w'.os = w.os
  tape : w'.tape = w.tape
  output : w'.output = w.output
  size : w.heap.size ≤ w'.heap.size
  block : ∀ k, k < w.heap.size → ¬ D k → w'.heap[k]? = w.heap[k]?
theorem Chg.refl (D : Nat → Prop) (w : World) : Chg D w w := ⟨rfl, rfl, rfl, Nat.le_refl _, fun _ _ _ => rfl⟩
theorem Chg.trans {D : Nat → Prop} {a b c : World} (h : Chg D a b) (k : Chg D b c) : Chg D a c :=
  ⟨k.os.trans h.os, k.tape.trans h.tape, k.output.trans h.output, Nat.le_trans h.size k.size, fun i hi hd => (k.block i (Nat.lt_of_lt_of_le hi h.size) hd).trans (h.block i hi hd)⟩
theorem Chg.mono {D D' : Nat → Prop} {w w' : World} (h : Chg D w w') (hd : ∀ b, b < w.heap.size → D b → D' b) : Chg D' w w' :=
  ⟨h.os, h.tape, h.output, h.size, fun i hi hn => h.block i hi (fun c => hn (hd i hi c))⟩
theorem Chg.of_below {D : Nat → Prop} {w w' : World} (h : Below w.heap.size w w') : Chg D w w' := ⟨h.os, h.tape, h.output, h.size, fun i hi _ => h.block i hi⟩
theorem Chg.of_grown {D : Nat → Prop} {w w' : World} {r : Option Nat} (h : w.grownBy w' r) (hr : ∀ g, r = some g → D g) : Chg D w w' := ⟨h.os, h.tape, h.output, h.size, fun i hi hn => h.block i hi (fun e => hn (hr i e.symm))⟩
theorem Chg.set {D : Nat → Prop} (w : World) (b i : Nat) (u : Value) (h : D b) : Chg D w (w.setCell ⟨b, i, none⟩ u) := Chg.of_grown (grown_set w b i u) (fun g e => by injection e with e; subst e; exact h)
/-- Below a number that D does not reach nothing has changed. -/
theorem Chg.below {D : Nat → Prop} {B : Nat} {w w' : World} (h : Chg D w w') (hB : B ≤ w.heap.size) (hd : ∀ b, D b → B ≤ b) : Below B w w' :=
  ⟨h.os, h.tape, h.output, h.size, fun k hk => h.block k (by omega) (fun c => by have := hd k c; omega)⟩
theorem Chg.kp {D : Nat → Prop} {w w' : World} (h : Chg D w w') : Kp (fun b => ¬ D b) (fun b => ¬ D b) w w' := fun b i u hs hc => ⟨hs, by
  have hb := World.block_lt_of_cell? w _ hc
  rw [World.cell?_of_block (a := ⟨b, i, none⟩) (h.block b hb hs)]; exact hc⟩
theorem Chg.drewN {D : Nat → Prop} {w w' : World} (h : Chg D w w') (n : Nat) : Chg D w (w'.drewN n) := h.trans (Chg.of_below (bel_drewN _ _ _))

theorem own_ne {w : World} {B e size n bb : Nat} {v : Value} {xs : List Value} {cs : Array Value} {ty : TypeId} (h : w.ownsRow B e size v n xs) (hb : w.heap[bb]? = some (.cells cs ty (0, 0))) (hne : ty ≠ e) : v.ownBlock ≠ some bb := by
  rcases h.2 with ⟨rfl, _⟩ | ⟨g', cap', cur, rfl, _, hh, _⟩
  · intro c; cases c
  · intro c
    have c' : g' = bb := by simpa [Value.ownBlock] using c
    subst c'
    rw [hb] at hh
    injection hh with hh
    injection hh with _ hh
    exact hne hh
theorem own_two {w : World} {B B' e e' size size' n n' : Nat} {v v' : Value} {xs xs' : List Value} (h : w.ownsRow B e size v n xs) (h' : w.ownsRow B' e' size' v' n' xs') (hne : e ≠ e') : ∀ g, v.ownBlock = some g → v'.ownBlock ≠ some g := by
  intro g hg
  rcases h.2 with ⟨rfl, _⟩ | ⟨g', cap', cur, rfl, _, hh, _⟩
  · cases hg
  · have : g' = g := by simpa [Value.ownBlock] using hg
    subst this
    exact own_ne h' hh hne
theorem info_mark : (Try.prog.info? 36).map (fun i => (i.zero, i.size, i.bytes)) = some (some (.agg #[.int .i64 0, .int .i64 0, .bool false]), 3, 24) := by kernel_rfl
theorem info_rmark : (Try.prog.info? 39).map (fun i => (i.zero, i.size, i.bytes)) = some (some (.agg #[.int .i64 0, .int .i64 0, .bool false]), 3, 24) := by kernel_rfl
theorem info_int16 : (Try.prog.info? 3).map (fun i => (i.zero, i.size, i.bytes)) = some (some (.int .i64 0), 1, 8) := by kernel_rfl
def Mk.cs (m : Mk) : List Value := [.int .i64 m.id, .int .i64 m.pl, .bool m.st]
def Mk.val (m : Mk) : Value := .agg #[.int .i64 m.id, .int .i64 m.pl, .bool m.st]
def mcs (L : List Mk) : List Value := L.flatMap Mk.cs
theorem mcs_app (L M : List Mk) : mcs (L ++ M) = mcs L ++ mcs M := by simp [mcs]
theorem mcs_cons (m : Mk) (L : List Mk) : mcs (m :: L) = .int .i64 m.id :: .int .i64 m.pl :: .bool m.st :: mcs L := by simp [mcs, Mk.cs]
theorem mcs_nil : mcs [] = [] := rfl
theorem mcs_len (L : List Mk) : (mcs L).length = L.length * 3 := by
  induction L with
  | nil => rfl
  | cons m r ih => rw [mcs_cons]; simp [ih]; omega
theorem mcs_one (L : List Mk) : ∀ u ∈ mcs L, u.oneCell' = true := by
  induction L with
  | nil => intro u hu; cases hu
  | cons m r ih =>
    intro u hu
    rw [mcs_cons] at hu
    simp only [List.mem_cons] at hu
    rcases hu with rfl | rfl | rfl | hu
    · rfl
    · rfl
    · rfl
    · exact ih u hu
theorem mcs_get (L : List Mk) (i : Nat) (h : i < L.length) : (mcs L)[i * 3]? = some (.int .i64 (L[i]'h).id) ∧ (mcs L)[i * 3 + 1]? = some (.int .i64 (L[i]'h).pl) ∧ (mcs L)[i * 3 + 2]? = some (.bool (L[i]'h).st) := by
  induction L generalizing i with
  | nil => simp at h
  | cons m r ih =>
    rw [mcs_cons]
    cases i with
    | zero => simp
    | succ i =>
      have := ih i (by simpa using h)
      rw [show (i + 1) * 3 = i * 3 + 1 + 1 + 1 by omega, show i * 3 + 1 + 1 + 1 + 1 = (i * 3 + 1) + 1 + 1 + 1 by omega, show i * 3 + 1 + 1 + 1 + 2 = (i * 3 + 2) + 1 + 1 + 1 by omega]
      simpa using this
theorem mcs_take (L : List Mk) (k : Nat) : mcs (L.take k) = (mcs L).take (k * 3) := by
  induction L generalizing k with
  | nil => simp [mcs]
  | cons m r ih =>
    cases k with
    | zero => simp [mcs]
    | succ k => rw [List.take_succ_cons, mcs_cons, mcs_cons, ih, show (k + 1) * 3 = k * 3 + 1 + 1 + 1 by omega]; simp
theorem mcs_drop (L : List Mk) (k : Nat) : mcs (L.drop k) = (mcs L).drop (k * 3) := by
  induction L generalizing k with
  | nil => simp [mcs]
  | cons m r ih =>
    cases k with
    | zero => simp
    | succ k => rw [List.drop_succ_cons, mcs_cons, ih, show (k + 1) * 3 = k * 3 + 1 + 1 + 1 by omega]; simp
theorem mcs_set_pl (L : List Mk) (i : Nat) (h : i < L.length) (a : Int) : (mcs L).set (i * 3 + 1) (.int .i64 a) = mcs (L.set i { L[i]'h with pl := a }) := by
  induction L generalizing i with
  | nil => simp at h
  | cons m r ih =>
    cases i with
    | zero => simp [mcs_cons]
    | succ i =>
      have := ih i (by simpa using h)
      rw [show (i + 1) * 3 + 1 = (i * 3 + 1) + 1 + 1 + 1 by omega, mcs_cons]
      simp only [List.set_cons_succ, this, List.getElem_cons_succ]
      rw [mcs_cons]
/-- Marks that may be read. -/
theorem own_mk {w : World} {B e n : Nat} {v : Value} {L : List Mk} (h : w.ownsRow B e 3 v n (mcs L)) (i : Nat) (hi : i < L.length) : ∃ g cap, v = .slice (some ⟨g, 0, none⟩) n cap ∧ n ≤ cap ∧ w.cell? ⟨g, i * 3, none⟩ = some (.int .i64 (L[i]'hi).id) ∧ w.cell? ⟨g, i * 3 + 1, none⟩ = some (.int .i64 (L[i]'hi).pl) ∧ w.cell? ⟨g, i * 3 + 2, none⟩ = some (.bool (L[i]'hi).st) ∧ ∀ k, w.frozen? ⟨g, k, none⟩ = false := by
  have hl := h.1
  rw [mcs_len] at hl
  have hin : L.length = n := by omega
  rcases h.2 with ⟨rfl, h2⟩ | ⟨g, cap, cur, rfl, hB, hh, hcap, hmx, hsz, hx⟩
  · omega
  · obtain ⟨c0, c1, c2⟩ := mcs_get L i hi
    refine ⟨g, cap, rfl, hcap, ?_, ?_, ?_, fun k => row_free hh k⟩
    · rw [h.cellAt (i * 3) (by omega), c0]
    · rw [h.cellAt (i * 3 + 1) (by omega), c1]
    · rw [h.cellAt (i * 3 + 2) (by omega), c2]
/-- A place written. -/
theorem own_set {w : World} {B e size n g cap j : Nat} {xs : List Value} (h : w.ownsRow B e size (.slice (some ⟨g, 0, none⟩) n cap) n xs) (u : Value) (hj : j < xs.length) : (w.setCell ⟨g, j, none⟩ u).ownsRow B e size (.slice (some ⟨g, 0, none⟩) n cap) n (xs.set j u) := by
  rcases h.2 with ⟨h1, h2⟩ | ⟨g', cap', cur, e1, hB, hh, hcap, hmx, hsz, hx⟩
  · cases h1
  · injection e1 with e1 e2 e3
    injection e1 with e1
    injection e1 with e1
    subst e1; subst e3
    refine ⟨by simpa using h.1, .inr ⟨g, cap, _, rfl, hB, arr_set u hh, hcap, hmx, by simpa using hsz, ?_⟩⟩
    rw [← hx]
    rw [← hx] at hj
    simp only [List.length_take] at hj
    simp only [Array.toList_setIfInBounds, List.take_set]
theorem own_block {g n cap : Nat} : (Value.slice (some ⟨g, 0, none⟩) n cap).ownBlock = some g := rfl
theorem chg_own {D : Nat → Prop} {w w' : World} {B e size n : Nat} {v : Value} {xs : List Value} (h : w.ownsRow B e size v n xs) (hc : Chg D w w') (hd : ∀ g, v.ownBlock = some g → ¬ D g) : w'.ownsRow B e size v n xs := by
  refine ⟨h.1, ?_⟩
  rcases h.2 with h2 | ⟨g, cap, cur, rfl, hB, hh, r⟩
  · exact .inl h2
  · exact .inr ⟨g, cap, cur, rfl, hB, by rw [hc.block g (heap_lt hh) (hd g rfl)]; exact hh, r⟩
/-- 3 values in a block. -/
theorem cells3 {W : World} {rb : Nat} {v0 v1 v2 : Value} {t : TypeId} (e : W.heap[rb]? = some (.cells #[v0, v1, v2] t (0, 0))) : (W.cell? ⟨rb, 0, none⟩ = some v0 ∧ W.cell? ⟨rb, 1, none⟩ = some v1 ∧ W.cell? ⟨rb, 2, none⟩ = some v2) ∧ W.frozen? ⟨rb, 0, none⟩ = false ∧ W.frozen? ⟨rb, 1, none⟩ = false ∧ W.frozen? ⟨rb, 2, none⟩ = false := by
  refine ⟨⟨?_, ?_, ?_⟩, row_free e 0, row_free e 1, row_free e 2⟩ <;> simp [World.cell?, e]
def put3 (w : World) (rb : Nat) (v0 v1 v2 : Value) : World := (((w.setCell ⟨rb, 0, none⟩ v0).setCell ⟨rb, 1, none⟩ v1).setCell ⟨rb, 2, none⟩ v2)
theorem put3_heap {w : World} {rb : Nat} {x0 x1 x2 : Value} {t : TypeId} (h : w.heap[rb]? = some (.cells #[x0, x1, x2] t (0, 0))) (v0 v1 v2 : Value) : (put3 w rb v0 v1 v2).heap[rb]? = some (.cells #[v0, v1, v2] t (0, 0)) := by
  simp [put3, World.setCell, Array.getElem?_modify, h]
theorem put3_grown (w : World) (rb : Nat) (v0 v1 v2 : Value) : w.grownBy (put3 w rb v0 v1 v2) (some rb) := by
  unfold put3
  exact grown_trans (grown_trans (grown_set _ _ _ _) (grown_set _ _ _ _)) (grown_set _ _ _ _)
theorem put3_below {B : Nat} {w w1 : World} {rb : Nat} (hb : Below B w w1) (hrb : B ≤ rb) (hB : B ≤ w.heap.size) (v0 v1 v2 : Value) : Below B w (put3 w1 rb v0 v1 v2) :=
  hb.trans (grown_below (put3_grown w1 rb v0 v1 v2) hrb (Nat.le_trans hB hb.size))
section
variable {P : Program} {fn : Func} {a p u : Tmp} {ty : TypeId}
theorem results_row_tmp (h : fn.results = #[.cell p ty, .tmp a]) (tmps : Array Value) (w : World) (g : Nat) (t : TypeId) (cs : Array Value) (fr : Nat × Nat) (d : TypeDesc)
    (hp : tmps.getD p undef = .pointer (some ⟨g, 0, none⟩)) (hg : w.heap[g]? = some (.cells cs t fr))
    (hu : P.underlying ty = some d) (hd : (match d with | .struct _ | .array _ _ => true | _ => false) = true) (hi : (P.info? ty).map (·.size) = some cs.size) :
    (results fn tmps).run P w = .ok (.tuple #[.agg cs, tmps.getD a undef]) w := by
  simp only [results, h]
  simp [Sem.run_bind, Result.andThen]
  rw [show tmps[p]?.getD undef = .pointer (some ⟨g, 0, none⟩) by simpa using hp]
  simp [asAddr, run_loadVar_row w g t ty cs fr d hg hu hd hi]
theorem results_row_tmp_tmp (h : fn.results = #[.cell p ty, .tmp a, .tmp u]) (tmps : Array Value) (w : World) (g : Nat) (t : TypeId) (cs : Array Value) (fr : Nat × Nat) (d : TypeDesc)
    (hp : tmps.getD p undef = .pointer (some ⟨g, 0, none⟩)) (hg : w.heap[g]? = some (.cells cs t fr))
    (hu : P.underlying ty = some d) (hd : (match d with | .struct _ | .array _ _ => true | _ => false) = true) (hi : (P.info? ty).map (·.size) = some cs.size) :
    (results fn tmps).run P w = .ok (.tuple #[.agg cs, tmps.getD a undef, tmps.getD u undef]) w := by
  simp only [results, h]
  simp [Sem.run_bind, Result.andThen]
  rw [show tmps[p]?.getD undef = .pointer (some ⟨g, 0, none⟩) by simpa using hp]
  simp [asAddr, run_loadVar_row w g t ty cs fr d hg hu hd hi]
theorem results_tmp_row (h : fn.results = #[.tmp a, .cell p ty]) (tmps : Array Value) (w : World) (g : Nat) (t : TypeId) (cs : Array Value) (fr : Nat × Nat) (d : TypeDesc)
    (hp : tmps.getD p undef = .pointer (some ⟨g, 0, none⟩)) (hg : w.heap[g]? = some (.cells cs t fr))
    (hu : P.underlying ty = some d) (hd : (match d with | .struct _ | .array _ _ => true | _ => false) = true) (hi : (P.info? ty).map (·.size) = some cs.size) :
    (results fn tmps).run P w = .ok (.tuple #[tmps.getD a undef, .agg cs]) w := by
  simp only [results, h]
  simp [Sem.run_bind, Result.andThen]
  rw [show tmps[p]?.getD undef = .pointer (some ⟨g, 0, none⟩) by simpa using hp]
  simp [asAddr, run_loadVar_row w g t ty cs fr d hg hu hd hi]
end
/-- The program's set. -/
structure PS (B : Nat) (w : World) (sb : Nat) (v : Value) (s : St) : Prop where
  lo : B ≤ sb
  blk : w.heap[sb]? = some (.cells #[.int .i64 s.sz, .int .i64 s.nx, v] 61 (0, 0))
  own : w.ownsRow B 36 3 v s.L.length (mcs s.L)
/-- What a call on the program's set may change. -/
def Own (sb : Nat) (v : Value) : Nat → Prop := fun k => k = sb ∨ v.ownBlock = some k
theorem PS.lo2 {B : Nat} {w : World} {sb : Nat} {v : Value} {s : St} (h : PS B w sb v s) : ∀ k, Own sb v k → B ≤ k := by
  intro k hk
  rcases hk with rfl | hk
  · exact h.lo
  · exact owns_ge h.own k hk
theorem PS.keep {B : Nat} {w w' : World} {sb : Nat} {v : Value} {s : St} {D : Nat → Prop} (h : PS B w sb v s) (hc : Chg D w w') (hd : ∀ k, Own sb v k → ¬ D k) : PS B w' sb v s :=
  ⟨h.lo, by rw [hc.block sb (heap_lt h.blk) (hd sb (.inl rfl))]; exact h.blk, chg_own h.own hc (fun g hg => hd g (.inr hg))⟩
theorem PS.below {B : Nat} {w w' : World} {sb : Nat} {v : Value} {s : St} (h : PS B w sb v s) (hb : Below w.heap.size w w') : PS B w' sb v s :=
  h.keep (D := fun _ => False) (Chg.of_below hb) (fun _ _ => id)
/-- The document's set. -/
def RS (B : Nat) (w : World) (x : Value) (s : St) : Prop := ∃ v, x = .agg #[.int .i64 s.sz, .int .i64 s.nx, v] ∧ w.ownsRow B 39 3 v s.L.length (mcs s.L)
theorem RS.below {B : Nat} {w w' : World} {x : Value} {s : St} (h : RS B w x s) (hb : Below w.heap.size w w') : RS B w' x s := by
  obtain ⟨v, e, h⟩ := h
  exact ⟨v, e, owns_below h hb⟩
theorem RS.keep {B B' : Nat} {w w' : World} {x : Value} {s s' : St} {sb : Nat} {v : Value} (h : RS B w x s) (hp : PS B' w sb v s') (hc : Chg (Own sb v) w w') : RS B w' x s := by
  obtain ⟨u, e, h⟩ := h
  refine ⟨u, e, chg_own h hc ?_⟩
  intro g hg hd
  rcases hd with rfl | hd
  · exact own_ne h hp.blk (by decide) hg
  · exact own_two hp.own h (by decide) g hd hg
theorem PS.chg_below {B : Nat} {w w' : World} {sb : Nat} {v : Value} {s : St} (h : PS B w sb v s) (hB : B ≤ w.heap.size) (hc : Chg (Own sb v) w w') : Below B w w' := hc.below hB h.lo2
end Go.Proofs.Ytdaccgnfhagoeaa
