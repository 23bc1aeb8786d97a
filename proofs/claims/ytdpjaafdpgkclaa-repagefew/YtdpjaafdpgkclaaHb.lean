/-
  Lines, numbers and settings as they lie in memory, and the means of the walks.
-/
import Derived.Test.YtdpjaafdpgkclaaHa
import Derived.Below
import Derived.WalkSpells
import Derived.WalkMore
import Derived.Laws.RangeAny
import Derived.Deep.QuietTactic
import Derived.Deep.RegionHeld3
import Derived.BigQuiet
import Derived.Handy
import Derived.Laws.AppendOwnNone
import Derived.Laws.StructEq
import Derived.Deep.AppendLies
import Derived.Lib.SliceRun
import Derived.Laws.MakeOwn
import Derived.Lib.QuietBelow
import Derived.Deep.Cut
namespace Go.Proofs.Ytdpjaafdpgkclaa
open Go.RowKit
set_option linter.unusedSimpArgs false
set_option linter.unusedVariables false

theorem ret_int {k : IntKind} {a b : Int} (h : a = b) : Ending.returned (.int k a) = .returned (.int k b) := by rw [h]
theorem ret_bool {a b : Bool} (h : a = b) : Ending.returned (.bool a) = .returned (.bool b) := by rw [h]
theorem bel_drewN (B : Nat) (w : World) (n : Nat) : Below B w (w.drewN n) := ⟨rfl, rfl, rfl, Nat.le_refl _, fun _ _ => rfl⟩
theorem hold {w w' : World} {a : Addr} {v : Value} (hb : Below w.heap.size w w') (h : w.cell? a = some v) : w'.cell? a = some v := by
  rw [hb.cell (World.block_lt_of_cell? w _ h)]; exact h
theorem below_step {B : Nat} {w w1 w2 : World} (h1 : Below B w w1) (hB : B ≤ w.heap.size) (h2 : Below w1.heap.size w1 w2) : Below B w w2 :=
  h1.trans (h2.mono (Nat.le_trans hB h1.size))
theorem cell_first (w : World) (cs : Array Value) (t : TypeId) (i : Nat) : (w.alloc (.cells cs t)).cell? ⟨w.heap.size, i, none⟩ = cs[i]? := by
  rw [cell_of_row _ _ _ _ _ _ (heap_alloc_new w (.cells cs t))]
theorem kept_first {w w2 : World} {cs : Array Value} {t : TypeId} (hb : Below (w.alloc (.cells cs t)).heap.size (w.alloc (.cells cs t)) w2) (j : Nat) : w2.cell? ⟨w.heap.size, j, none⟩ = cs[j]? := by
  rw [hb.cell (p := ⟨w.heap.size, j, none⟩) (by simp)]
  exact cell_first _ _ _ _
theorem kept_below {B : Nat} {w w1 w2 : World} {o : Obj} (h1 : Below B w w1) (hB : B ≤ w.heap.size) (hb : Below (w1.alloc o).heap.size (w1.alloc o) w2) : Below B w w2 := by
  have hz := Nat.le_trans hB h1.size
  exact (h1.alloc hz _).trans (hb.mono (by simp; omega))
/-- What S names, if it is there, is there still, and named. -/
def Kp (S S' : Nat → Prop) (w w' : World) : Prop := ∀ b i u, S b → w.cell? ⟨b, i, none⟩ = some u → S' b ∧ w'.cell? ⟨b, i, none⟩ = some u
theorem kp_below {S : Nat → Prop} {w w' : World} (h : Below w.heap.size w w') : Kp S S w w' := fun b i u hs hc => ⟨hs, hold h hc⟩
/-- Lines as they lie in memory, in blocks that S names. -/
def SltsAt (S : Nat → Prop) (w : World) (ao : Option Addr) (n : Nat) (F : Nat → Slt) : Prop := ∀ i, i < n → (I64 (F i).h ∧ I64 (F i).i ∧ I64 (F i).c) ∧ ∃ b off, ao = some ⟨b, off, none⟩ ∧ S b ∧
    w.cell? ⟨b, off + i * 4, none⟩ = some (.int .i64 (F i).h) ∧ w.cell? ⟨b, off + i * 4 + 1, none⟩ = some (.int .i64 (F i).i) ∧ w.cell? ⟨b, off + i * 4 + 2, none⟩ = some (.int .i64 (F i).c) ∧ w.cell? ⟨b, off + i * 4 + 3, none⟩ = some (.bool (F i).k)
theorem SltsAt.keep {S S' : Nat → Prop} {w w' : World} {ao : Option Addr} {n : Nat} {F : Nat → Slt} (h : SltsAt S w ao n F) (k : Kp S S' w w') : SltsAt S' w' ao n F := by
  intro i hi
  obtain ⟨h1, b, off, e, hs, c0, c1, c2, c3⟩ := h i hi
  exact ⟨h1, b, off, e, (k _ _ _ hs c0).1, (k _ _ _ hs c0).2, (k _ _ _ hs c1).2, (k _ _ _ hs c2).2, (k _ _ _ hs c3).2⟩
theorem SltsAt.below {S : Nat → Prop} {w w' : World} {ao : Option Addr} {n : Nat} {F : Nat → Slt} (h : SltsAt S w ao n F) (hb : Below w.heap.size w w') : SltsAt S w' ao n F := h.keep (kp_below hb)
theorem SltsAt.form {S : Nat → Prop} {w : World} {ao : Option Addr} {n : Nat} {F : Nat → Slt} (h : SltsAt S w ao n F) (hn : 0 < n) : ∃ b off, ao = some ⟨b, off, none⟩ ∧ b < w.heap.size ∧ S b := by
  obtain ⟨-, b, off, e, hs, c0, -⟩ := h 0 hn
  exact ⟨b, off, e, World.block_lt_of_cell? w _ c0, hs⟩
theorem SltsAt.get {S : Nat → Prop} {w : World} {b off n : Nat} {F : Nat → Slt} (h : SltsAt S w (some ⟨b, off, none⟩) n F) (i : Nat) (hi : i < n) : w.cell? ⟨b, off + i * 4, none⟩ = some (.int .i64 (F i).h) ∧ w.cell? ⟨b, off + i * 4 + 1, none⟩ = some (.int .i64 (F i).i) ∧ w.cell? ⟨b, off + i * 4 + 2, none⟩ = some (.int .i64 (F i).c) ∧ w.cell? ⟨b, off + i * 4 + 3, none⟩ = some (.bool (F i).k) := by
  obtain ⟨-, b', off', e, -, c0, c1, c2, c3⟩ := h i hi
  injection e with e
  injection e with e1 e2 e3
  subst e1; subst e2
  exact ⟨c0, c1, c2, c3⟩
/-- A part of lines. -/
theorem SltsAt.part {S : Nat → Prop} {w : World} {b off n : Nat} {F : Nat → Slt} (h : SltsAt S w (some ⟨b, off, none⟩) n F) (a m : Nat) (hm : a + m ≤ n) : SltsAt S w (some ⟨b, off + a * 4, none⟩) m (fun j => F (a + j)) := by
  intro i hi
  obtain ⟨h1, b', off', e, hs, c0, c1, c2, c3⟩ := h (a + i) (by omega)
  injection e with e
  injection e with e1 e2 e3
  subst e1; subst e2
  have ee : off + a * 4 + i * 4 = off + (a + i) * 4 := by omega
  refine ⟨h1, b, off + a * 4, rfl, hs, ?_⟩
  rw [ee]
  exact ⟨c0, c1, c2, c3⟩
/-- Numbers as they lie in memory, in blocks that S names. -/
def NAt (S : Nat → Prop) (w : World) (ao : Option Addr) (L : List Nat) : Prop := ∀ i, i < L.length → ∃ b, ao = some ⟨b, 0, none⟩ ∧ S b ∧ w.cell? ⟨b, i, none⟩ = some (.int .i64 (L.getD i 0 : Nat))
theorem NAt.keep {S S' : Nat → Prop} {w w' : World} {ao : Option Addr} {L : List Nat} (h : NAt S w ao L) (k : Kp S S' w w') : NAt S' w' ao L := by
  intro i hi
  obtain ⟨b, e, hs, c0⟩ := h i hi
  exact ⟨b, e, (k _ _ _ hs c0).1, (k _ _ _ hs c0).2⟩
theorem NAt.below {S : Nat → Prop} {w w' : World} {ao : Option Addr} {L : List Nat} (h : NAt S w ao L) (hb : Below w.heap.size w w') : NAt S w' ao L := h.keep (kp_below hb)
theorem NAt.form {S : Nat → Prop} {w : World} {ao : Option Addr} {L : List Nat} (h : NAt S w ao L) (hn : 0 < L.length) : ∃ b, ao = some ⟨b, 0, none⟩ ∧ b < w.heap.size ∧ S b := by
  obtain ⟨b, e, hs, c0⟩ := h 0 hn
  exact ⟨b, e, World.block_lt_of_cell? w _ c0, hs⟩
theorem NAt.get {S : Nat → Prop} {w : World} {b off : Nat} {L : List Nat} (h : NAt S w (some ⟨b, off, none⟩) L) (i : Nat) (hi : i < L.length) : w.cell? ⟨b, i, none⟩ = some (.int .i64 (L.getD i 0 : Nat)) := by
  obtain ⟨b', e, -, c0⟩ := h i hi
  injection e with e
  injection e with e1 e2 e3
  subst e1
  exact c0
/-- The cells of a row of numbers. -/
def ncs (L : List Nat) : List Value := L.map fun n => .int .i64 (n : Nat)
theorem ncs_len (L : List Nat) : (ncs L).length = L.length := by simp [ncs]
theorem ncs_app (L M : List Nat) : ncs (L ++ M) = ncs L ++ ncs M := by simp [ncs]
theorem ncs_one (L : List Nat) : ∀ u ∈ ncs L, u.oneCell' = true := by
  intro u hu
  simp only [ncs, List.mem_map] at hu
  obtain ⟨n, -, rfl⟩ := hu
  rfl
theorem ncs_get (L : List Nat) (i : Nat) (h : i < L.length) : (ncs L)[i]? = some (.int .i64 (L.getD i 0 : Nat)) := by
  simp [ncs, List.getElem?_eq_getElem h]
theorem ownsRow_forms {w : World} {base size n : Nat} {e : TypeId} {v : Value} {xs : List Value} (h : w.ownsRow base e size v n xs) : (v = .slice none 0 0 ∧ n = 0) ∨ ∃ g cap, v = .slice (some ⟨g, 0, none⟩) n cap := by
  rcases h.2 with ⟨h1, h2⟩ | ⟨g, cap, cur, h1, _⟩
  · exact .inl ⟨h1, h2⟩
  · exact .inr ⟨g, cap, h1⟩
theorem own_shape {w : World} {base size n : Nat} {e : TypeId} {v : Value} {xs : List Value} (h : w.ownsRow base e size v n xs) : ∃ ao cap, v = .slice ao n cap := by
  rcases ownsRow_forms h with ⟨g1, g2⟩ | ⟨g, cap, g1⟩
  · exact ⟨none, 0, by rw [g2]; exact g1⟩
  · exact ⟨_, _, g1⟩
theorem owns_below {w w' : World} {B e size n : Nat} {v : Value} {xs : List Value} (h : w.ownsRow B e size v n xs) (hb : Below w.heap.size w w') : w'.ownsRow B e size v n xs :=
  h.kept (row := none) ⟨hb.os, hb.tape, hb.output, hb.size, fun k hk _ => hb.block k hk⟩ (by cases hv : v.ownBlock <;> simp)
theorem owns_ge {w : World} {B e size n : Nat} {v : Value} {xs : List Value} (h : w.ownsRow B e size v n xs) : ∀ r, v.ownBlock = some r → B ≤ r := fun r e => (h.lt r e).1
theorem own_down {w : World} {B B' e size n : Nat} {v : Value} {xs : List Value} (h : w.ownsRow B e size v n xs) (hB : B' ≤ B) : w.ownsRow B' e size v n xs :=
  ⟨h.1, h.2.imp id (fun ⟨g, c, cu, x1, x2, x3⟩ => ⟨g, c, cu, x1, Nat.le_trans hB x2, x3⟩)⟩
theorem own_nat {w : World} {B : Nat} {ao : Option Addr} {n cap : Nat} {L : List Nat} (h : w.ownsRow B 3 1 (.slice ao n cap) n (ncs L)) (hl : L.length = n) : NAt (fun b => B ≤ b) w ao L := by
  intro i hi
  rcases ownsRow_forms h with ⟨_, h2⟩ | ⟨g, cap', e⟩
  · omega
  · injection e with e1 e2 e3
    subst e1; subst e3
    have hB := h.lt g rfl
    refine ⟨g, rfl, hB.1, ?_⟩
    rw [h.cellAt i (by omega), ncs_get L i hi]
theorem grown_below {w w' : World} {lb B : Nat} (h : w.grownBy w' (some lb)) (hl : B ≤ lb) (hB : B ≤ w.heap.size) : Below B w w' :=
  ⟨h.os, h.tape, h.output, h.size, fun k hk => h.block k (by omega) (fun e => by injection e; omega)⟩
theorem grown_trans {a b c : World} {row : Option Nat} (h : a.grownBy b row) (k : b.grownBy c row) : a.grownBy c row :=
  ⟨k.os.trans h.os, k.tape.trans h.tape, k.output.trans h.output, Nat.le_trans h.size k.size, fun i hi hr => (k.block i (Nat.lt_of_lt_of_le hi h.size) hr).trans (h.block i hi hr)⟩
theorem grown_set (w : World) (b i : Nat) (u : Value) : w.grownBy (w.setCell ⟨b, i, none⟩ u) (some b) :=
  ⟨rfl, rfl, rfl, by simp, fun k _ hk => heap_setCell_other w ⟨b, i, none⟩ k u (fun e => hk (by simp [e]))⟩
theorem info_int12 : (Try.prog.info? 3).map (fun i => (i.zero, i.size, i.bytes)) = some (some (.int .i64 0), 1, 8) := by kernel_rfl
theorem info_slot : (Try.prog.info? 69).map (fun i => (i.zero, i.size, i.bytes)) = some (some (.agg #[.int .i64 0, .int .i64 0, .int .i64 0, .bool false]), 4, 32) := by kernel_rfl
theorem arr_at {W : World} {G k : Nat} {arr : Array Value} {t : TypeId} (e : W.heap[G]? = some (.cells arr t (0, 0))) (hk : k < arr.size) : W.cell? ⟨G, k, none⟩ = some arr[k] ∧ W.frozen? ⟨G, k, none⟩ = false := by
  refine ⟨?_, ?_⟩
  · rw [cell_of_row W G k arr t (0, 0) e]; simp [hk]
  · unfold World.frozen?; rw [e]; simp
theorem arr_set {W : World} {G k : Nat} {arr : Array Value} {t : TypeId} (v : Value) (e : W.heap[G]? = some (.cells arr t (0, 0))) : (W.setCell ⟨G, k, none⟩ v).heap[G]? = some (.cells (arr.setIfInBounds k v) t (0, 0)) := by
  simp [World.setCell, Array.getElem?_modify, e]
theorem row_free {W : World} {b : Nat} {arr : Array Value} {t : TypeId} (e : W.heap[b]? = some (.cells arr t (0, 0))) (k : Nat) : W.frozen? ⟨b, k, none⟩ = false := by
  unfold World.frozen?; rw [e]; simp
theorem heap_lt {w : World} {b : Nat} {o : Obj} (h : w.heap[b]? = some o) : b < w.heap.size := by
  by_cases c : b < w.heap.size
  · exact c
  · rw [Array.getElem?_eq_none (by omega)] at h; cases h
theorem laid1 (w : World) (A : Obj) : (w.alloc A).heap[w.heap.size]? = some A ∧ Below w.heap.size w (w.alloc A) ∧ (w.alloc A).heap.size = w.heap.size + 1 :=
  ⟨heap_alloc_new w A, (Below.refl _ _).alloc (Nat.le_refl _) _, by simp⟩
theorem laid2 (w : World) (A B : Obj) : ((w.alloc A).alloc B).heap[w.heap.size]? = some A ∧ ((w.alloc A).alloc B).heap[w.heap.size + 1]? = some B ∧ Below w.heap.size w ((w.alloc A).alloc B) ∧ ((w.alloc A).alloc B).heap.size = w.heap.size + 2 := by
  refine ⟨?_, ?_, ?_, by simp⟩
  · rw [Below.heap_alloc _ _ _ (by simp)]; exact heap_alloc_new w A
  · have := heap_alloc_new (w.alloc A) B
    simpa using this
  · exact ((Below.refl _ _).alloc (Nat.le_refl _) _).alloc (by simp) _
/-- Settings in a block of their own. -/
def StC (W : World) (b : Nat) (s : Stg) : Prop := W.cell? ⟨b, 0, none⟩ = some (.int .i64 s.t) ∧ W.cell? ⟨b, 1, none⟩ = some (.int .i64 s.l) ∧ W.cell? ⟨b, 2, none⟩ = some (.int .i64 s.a) ∧ W.cell? ⟨b, 3, none⟩ = some (.int .i64 s.d) ∧ W.cell? ⟨b, 4, none⟩ = some (.int .i64 s.z) ∧ W.cell? ⟨b, 5, none⟩ = some (.int .i64 s.o) ∧ W.cell? ⟨b, 6, none⟩ = some (.int .i64 s.i)
theorem StC.below {W W' : World} {b : Nat} {s : Stg} (h : StC W b s) (hb : Below W.heap.size W W') : StC W' b s :=
  ⟨hold hb h.1, hold hb h.2.1, hold hb h.2.2.1, hold hb h.2.2.2.1, hold hb h.2.2.2.2.1, hold hb h.2.2.2.2.2.1, hold hb h.2.2.2.2.2.2⟩
theorem StC.lt {W : World} {b : Nat} {s : Stg} (h : StC W b s) : b < W.heap.size := World.block_lt_of_cell? W _ h.1
theorem stc_new (w : World) (s : Stg) : StC (w.alloc (.cells #[.int .i64 s.t, .int .i64 s.l, .int .i64 s.a, .int .i64 s.d, .int .i64 s.z, .int .i64 s.o, .int .i64 s.i] 24)) w.heap.size s :=
  ⟨cell_first _ _ _ 0, cell_first _ _ _ 1, cell_first _ _ _ 2, cell_first _ _ _ 3, cell_first _ _ _ 4, cell_first _ _ _ 5, cell_first _ _ _ 6⟩
end Go.Proofs.Ytdpjaafdpgkclaa
