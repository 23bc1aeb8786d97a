/-
  Lines, their runs and pages as they lie in memory, and what the laws are handed (by mklpa.py).
-/
import Derived.Test.YtcdcpmcjlchfgaaMo
import Derived.Test.YtcdcpmcjlchfgaaMm
import Derived.Test.YtcdcpmcjlchfgaaNd
import Derived.Deep.RegionHeld3
import Derived.Deep.AppendLies
import Derived.Lib.SliceRun
import Derived.Laws.MakeOwn
import Derived.Laws.StructEq
import Derived.Lib.QuietBelow
import Derived.Deep.Cut
import Derived.Deep.Slices
import Derived.SizedLaws
import Derived.OpenShut
namespace Go.Proofs.Ytcdcpmcjlchfgaa
open Go.RowKit Go.Deep
set_option linter.unusedSimpArgs false
set_option linter.unusedVariables false

theorem kept_first {w w2 : World} {cs : Array Value} {t : TypeId} (hb : Below (w.alloc (.cells cs t)).heap.size (w.alloc (.cells cs t)) w2) (j : Nat) : w2.cell? ⟨w.heap.size, j, none⟩ = cs[j]? := by
  rw [hb.cell (p := ⟨w.heap.size, j, none⟩) (by simp)]
  exact cell_first _ _ _ _
theorem kept_below {B : Nat} {w w1 w2 : World} {o : Obj} (h1 : Below B w w1) (hB : B ≤ w.heap.size) (hb : Below (w1.alloc o).heap.size (w1.alloc o) w2) : Below B w w2 := by
  have hz := Nat.le_trans hB h1.size
  exact (h1.alloc hz _).trans (hb.mono (by simp; omega))
theorem own_down {w : World} {B B' e size n : Nat} {v : Value} {xs : List Value} (h : w.ownsRow B e size v n xs) (hB : B' ≤ B) : w.ownsRow B' e size v n xs :=
  ⟨h.1, h.2.imp id (fun ⟨g, c, cu, x1, x2, x3⟩ => ⟨g, c, cu, x1, Nat.le_trans hB x2, x3⟩)⟩
theorem arr_at {W : World} {G k : Nat} {arr : Array Value} {t : TypeId} (e : W.heap[G]? = some (.cells arr t (0, 0))) (hk : k < arr.size) : W.cell? ⟨G, k, none⟩ = some arr[k] ∧ W.frozen? ⟨G, k, none⟩ = false := by
  refine ⟨?_, ?_⟩
  · rw [cell_of_row W G k arr t (0, 0) e]; simp [hk]
  · unfold World.frozen?; rw [e]; simp
theorem arr_set {W : World} {G k : Nat} {arr : Array Value} {t : TypeId} (v : Value) (e : W.heap[G]? = some (.cells arr t (0, 0))) : (W.setCell ⟨G, k, none⟩ v).heap[G]? = some (.cells (arr.setIfInBounds k v) t (0, 0)) := by
  simp [World.setCell, Array.getElem?_modify, e]
theorem heap_lt {w : World} {b : Nat} {o : Obj} (h : w.heap[b]? = some o) : b < w.heap.size := by
  by_cases c : b < w.heap.size
  · exact c
  · rw [Array.getElem?_eq_none (by omega)] at h; cases h
theorem laid1 (w : World) (A : Obj) : (w.alloc A).heap[w.heap.size]? = some A ∧ Below w.heap.size w (w.alloc A) ∧ (w.alloc A).heap.size = w.heap.size + 1 :=
  ⟨heap_alloc_new w A, (Below.refl _ _).alloc (Nat.le_refl _) _, by simp⟩
theorem laid2 (w : World) (A B : Obj) : ((w.alloc A).alloc B).heap[w.heap.size]? = some A ∧ ((w.alloc A).alloc B).heap[w.heap.size + 1]? = some B ∧ Below w.heap.size w ((w.alloc A).alloc B) ∧ ((w.alloc A).alloc B).heap.size = w.heap.size + 2 := by
  refine ⟨?_, ?_, ?_, by simp⟩
  · rw [Below.heap_alloc _ _ _ (by simp)]; exact heap_alloc_new w A
  · have := heap_alloc_new (w.alloc A) B
    simpa using this
  · exact ((Below.refl _ _).alloc (Nat.le_refl _) _).alloc (by simp) _
theorem ownsRow_forms {w : World} {base size n : Nat} {e : TypeId} {v : Value} {xs : List Value} (h : w.ownsRow base e size v n xs) : (v = .slice none 0 0 ∧ n = 0) ∨ ∃ g cap, v = .slice (some ⟨g, 0, none⟩) n cap := by
  rcases h.2 with ⟨h1, h2⟩ | ⟨g, cap, cur, h1, _⟩
  · exact .inl ⟨h1, h2⟩
  · exact .inr ⟨g, cap, h1⟩
theorem own_shape {w : World} {base size n : Nat} {e : TypeId} {v : Value} {xs : List Value} (h : w.ownsRow base e size v n xs) : ∃ ao cap, v = .slice ao n cap := by
  rcases ownsRow_forms h with ⟨g1, g2⟩ | ⟨g, cap, g1⟩
  · exact ⟨none, 0, by rw [g2]; exact g1⟩
  · exact ⟨_, _, g1⟩
theorem grown_below {w w' : World} {lb B : Nat} (h : w.grownBy w' (some lb)) (hl : B ≤ lb) (hB : B ≤ w.heap.size) : Below B w w' :=
  ⟨h.os, h.tape, h.output, h.size, fun k hk => h.block k (by omega) (fun e => by injection e; omega)⟩
theorem grown_trans {a b c : World} {row : Option Nat} (h : a.grownBy b row) (k : b.grownBy c row) : a.grownBy c row :=
  ⟨k.os.trans h.os, k.tape.trans h.tape, k.output.trans h.output, Nat.le_trans h.size k.size, fun i hi hr => (k.block i (Nat.lt_of_lt_of_le hi h.size) hr).trans (h.block i hi hr)⟩
theorem grown_set (w : World) (b i : Nat) (u : Value) : w.grownBy (w.setCell ⟨b, i, none⟩ u) (some b) :=
  ⟨rfl, rfl, rfl, by simp, fun k _ hk => heap_setCell_other w ⟨b, i, none⟩ k u (fun e => hk (by simp [e]))⟩
def P2At (S : Nat → Prop) (w : World) (ao : Option Addr) (n : Nat) (A Y : Nat → Int) : Prop := ∀ i, i < n → (I64 (A i) ∧ I64 (Y i)) ∧ ∃ b off, ao = some ⟨b, off, none⟩ ∧ S b ∧
    w.cell? ⟨b, off + i * 2, none⟩ = some (.int .i64 (A i)) ∧ w.cell? ⟨b, off + i * 2 + 1, none⟩ = some (.int .i64 (Y i))
theorem P2At.keep {S S' : Nat → Prop} {w w' : World} {ao : Option Addr} {n : Nat} {A Y : Nat → Int} (h : P2At S w ao n A Y) (k : Kp S S' w w') : P2At S' w' ao n A Y := by
  intro i hi
  obtain ⟨h1, b, off, e, hs, c0, c1⟩ := h i hi
  exact ⟨h1, b, off, e, (k _ _ _ hs c0).1, (k _ _ _ hs c0).2, (k _ _ _ hs c1).2⟩
theorem P2At.form {S : Nat → Prop} {w : World} {ao : Option Addr} {n : Nat} {A Y : Nat → Int} (h : P2At S w ao n A Y) (hn : 0 < n) : ∃ b off, ao = some ⟨b, off, none⟩ ∧ S b := by
  obtain ⟨-, b, off, e, hs, -, -⟩ := h 0 hn
  exact ⟨b, off, e, hs⟩
theorem P2At.get {S : Nat → Prop} {w : World} {b off n : Nat} {A Y : Nat → Int} (h : P2At S w (some ⟨b, off, none⟩) n A Y) (i : Nat) (hi : i < n) : w.cell? ⟨b, off + i * 2, none⟩ = some (.int .i64 (A i)) ∧ w.cell? ⟨b, off + i * 2 + 1, none⟩ = some (.int .i64 (Y i)) := by
  obtain ⟨-, b', off', e, -, c0, c1⟩ := h i hi
  injection e with e
  injection e with e1 e2 e3
  subst e1; subst e2
  exact ⟨c0, c1⟩
theorem P2At.below {S : Nat → Prop} {w w' : World} {ao : Option Addr} {n : Nat} {A Y : Nat → Int} (h : P2At S w ao n A Y) (hb : Below w.heap.size w w') : P2At S w' ao n A Y := h.keep (kp_below hb)
theorem info_run : (Try.prog.info? 75).map (fun i => (i.zero, i.size, i.bytes)) = some (some (.agg #[.int .i64 0, .int .i64 0]), 2, 16) := by kernel_rfl
structure Lne where
  tx : ByteArray
  ra : Option Addr
  rn : Nat
  rc : Nat
  num : Int
  den : Int
  h : Int
  hy : Bool
  y : Int
  bg : Bool
  en : Bool
  L : Nat → Int
  Y : Nat → Int
def Lne.zero : Lne := ⟨⟨#[]⟩, none, 0, 0, 0, 0, 0, false, 0, false, false, fun _ => 0, fun _ => 0⟩
def Lne.cells (x : Lne) : List Value := [.string x.tx, .slice x.ra x.rn x.rc, .int .i64 x.num, .int .i64 x.den, .int .i64 x.h, .bool x.hy, .int .i64 x.y, .bool x.bg, .bool x.en]
def Lne.val (x : Lne) : Value := .agg #[.string x.tx, .slice x.ra x.rn x.rc, .int .i64 x.num, .int .i64 x.den, .int .i64 x.h, .bool x.hy, .int .i64 x.y, .bool x.bg, .bool x.en]
/-- Lines as they lie in memory, with their runs, in blocks that S names. -/
def LnsAt (S : Nat → Prop) (w : World) (ao : Option Addr) (n : Nat) (F : Nat → Lne) : Prop := ∀ i, i < n → P2At S w (F i).ra (F i).rn (F i).L (F i).Y ∧ ∃ b off, ao = some ⟨b, off, none⟩ ∧ S b ∧
    w.cell? ⟨b, off + i * 9, none⟩ = some (.string (F i).tx) ∧ w.cell? ⟨b, off + i * 9 + 1, none⟩ = some (.slice (F i).ra (F i).rn (F i).rc) ∧ w.cell? ⟨b, off + i * 9 + 2, none⟩ = some (.int .i64 (F i).num) ∧ w.cell? ⟨b, off + i * 9 + 3, none⟩ = some (.int .i64 (F i).den) ∧ w.cell? ⟨b, off + i * 9 + 4, none⟩ = some (.int .i64 (F i).h) ∧ w.cell? ⟨b, off + i * 9 + 5, none⟩ = some (.bool (F i).hy) ∧ w.cell? ⟨b, off + i * 9 + 6, none⟩ = some (.int .i64 (F i).y) ∧ w.cell? ⟨b, off + i * 9 + 7, none⟩ = some (.bool (F i).bg) ∧ w.cell? ⟨b, off + i * 9 + 8, none⟩ = some (.bool (F i).en)
theorem LnsAt.keep {S S' : Nat → Prop} {w w' : World} {ao : Option Addr} {n : Nat} {F : Nat → Lne} (h : LnsAt S w ao n F) (k : Kp S S' w w') : LnsAt S' w' ao n F := by
  intro i hi
  obtain ⟨hr, b, off, e, hs, c0, c1, c2, c3, c4, c5, c6, c7, c8⟩ := h i hi
  exact ⟨hr.keep k, b, off, e, (k _ _ _ hs c0).1, (k _ _ _ hs c0).2, (k _ _ _ hs c1).2, (k _ _ _ hs c2).2, (k _ _ _ hs c3).2, (k _ _ _ hs c4).2, (k _ _ _ hs c5).2, (k _ _ _ hs c6).2, (k _ _ _ hs c7).2, (k _ _ _ hs c8).2⟩
theorem LnsAt.below {S : Nat → Prop} {w w' : World} {ao : Option Addr} {n : Nat} {F : Nat → Lne} (h : LnsAt S w ao n F) (hb : Below w.heap.size w w') : LnsAt S w' ao n F := h.keep (kp_below hb)
theorem LnsAt.get {S : Nat → Prop} {w : World} {b off n : Nat} {F : Nat → Lne} (h : LnsAt S w (some ⟨b, off, none⟩) n F) (i : Nat) (hi : i < n) : P2At S w (F i).ra (F i).rn (F i).L (F i).Y ∧
    w.cell? ⟨b, off + i * 9, none⟩ = some (.string (F i).tx) ∧ w.cell? ⟨b, off + i * 9 + 1, none⟩ = some (.slice (F i).ra (F i).rn (F i).rc) ∧ w.cell? ⟨b, off + i * 9 + 2, none⟩ = some (.int .i64 (F i).num) ∧ w.cell? ⟨b, off + i * 9 + 3, none⟩ = some (.int .i64 (F i).den) ∧ w.cell? ⟨b, off + i * 9 + 4, none⟩ = some (.int .i64 (F i).h) ∧ w.cell? ⟨b, off + i * 9 + 5, none⟩ = some (.bool (F i).hy) ∧ w.cell? ⟨b, off + i * 9 + 6, none⟩ = some (.int .i64 (F i).y) ∧ w.cell? ⟨b, off + i * 9 + 7, none⟩ = some (.bool (F i).bg) ∧ w.cell? ⟨b, off + i * 9 + 8, none⟩ = some (.bool (F i).en) := by
  obtain ⟨h1, b', off', e, -, c⟩ := h i hi
  injection e with e
  injection e with e1 e2 e3
  subst e1; subst e2
  exact ⟨h1, c⟩
theorem LnsAt.form {S : Nat → Prop} {w : World} {ao : Option Addr} {n : Nat} {F : Nat → Lne} (h : LnsAt S w ao n F) (hn : 0 < n) : ∃ b off, ao = some ⟨b, off, none⟩ ∧ b < w.heap.size := by
  obtain ⟨-, b, off, e, -, c0, -⟩ := h 0 hn
  exact ⟨b, off, e, World.block_lt_of_cell? w _ c0⟩
/-- What a slice's room is. -/
def Sl (la : Option Addr) (lc n : Nat) : Prop := n ≤ lc ∧ (la = none → lc = 0)
/-- A page as it comes in. -/
structure Pgv where
  la : Option Addr
  ln : Nat
  lc : Nat
  F : Nat → Lne
/-- What is known of a line that comes in. -/
structure LneOk (x : Lne) : Prop where
  tx : x.tx.size ≤ 140737488351232
  rn : x.rn ≤ maxLen ∧ x.rn ≤ x.rc
  num : I64 x.num
  den : I64 x.den
  h : I64 x.h
  y : I64 x.y
structure PgvOk (p : Pgv) : Prop where
  ln : p.ln ≤ maxLen
  sl : Sl p.la p.lc p.ln
  all : ∀ i, i < p.ln → LneOk (p.F i)
/-- Pages as they come in. -/
def PgsR (S : Nat → Prop) (w : World) (ao : Option Addr) (n : Nat) (P : Nat → Pgv) : Prop := ∀ i, i < n → PgvOk (P i) ∧ LnsAt S w (P i).la (P i).ln (P i).F ∧ ∃ b off, ao = some ⟨b, off, none⟩ ∧ S b ∧ w.cell? ⟨b, off + i, none⟩ = some (.slice (P i).la (P i).ln (P i).lc)
theorem PgsR.below {S : Nat → Prop} {w w' : World} {ao : Option Addr} {n : Nat} {P : Nat → Pgv} (h : PgsR S w ao n P) (hb : Below w.heap.size w w') : PgsR S w' ao n P := by
  intro i hi
  obtain ⟨h1, h2, b, off, e, hs, c⟩ := h i hi
  exact ⟨h1, h2.below hb, b, off, e, hs, hold hb c⟩
structure LneR (x : Lne) : Prop where
  tx : x.tx.size ≤ maxLen
  rn : x.rn ≤ maxLen ∧ x.rn ≤ x.rc
  num : I64 x.num
  den : I64 x.den
  h : I64 x.h
  y : I64 x.y
section
variable {H : Type} {enc : TypeId × Value → H} {W : World}
theorem open_cap {fuel : Nat} {ao : Option Addr} {len cap : Nat} {d : DataW H} {p : List MemPlace} (h : DataW.trod enc Try.prog W 0 (fun _ => true) true fuel 39 [.slice ao len cap] = some (d, p)) : len ≤ cap := by
  rcases open_slice Try.underlying39 h with ⟨hcs, _⟩ | ⟨a, l, c, m, n, D, Pl, hcs, _, hl, hml, hm, hx, hel⟩
  · injection hcs with hcs
    injection hcs with e1 e2 e3
    omega
  · injection hcs with hcs
    injection hcs with e1 e2 e3
    omega
set_option maxRecDepth 100000 in
theorem open_runP {fuel : Nat} {cs : List Value} {d : DataW H} {p : List MemPlace} (h : DataW.trod enc Try.prog W 0 (fun _ => true) true fuel 75 cs = some (d, p)) :
    ∃ l y : Int, cs = [.int .i64 l, .int .i64 y] ∧ I64 l ∧ I64 y := by
  obtain ⟨xs, n, _, hx, hl, hlen, hf⟩ := DataW.trod_struct Try.underlying75 h
  have hc2 : Try.prog.cellsOf 75 = 2 := by kernel_rfl
  rw [hc2] at hl
  have k3 : Try.prog.cellsOf 3 = 1 := by kernel_rfl
  obtain ⟨c0, c1, rfl⟩ : ∃ c0 c1, cs = [c0, c1] := by
    match cs, hl with
    | [c0, c1], _ => exact ⟨c0, c1, rfl⟩
  obtain ⟨y0, y1, rfl⟩ : ∃ y0 y1, xs = [y0, y1] := by
    match xs, hlen with
    | [y0, y1], _ => exact ⟨y0, y1, rfl⟩
  have g0 := hf 0 _ rfl
  have g1 := hf 1 _ rfl
  simp [k3] at g0 g1
  obtain ⟨b0, e0, _, w0⟩ := DataW.trod_int Try.underlying3 g0
  obtain ⟨b1, e1, _, w1⟩ := DataW.trod_int Try.underlying3 g1
  injection e0 with e0
  injection e1 with e1
  subst e0; subst e1
  exact ⟨b0, b1, rfl, wf_i64 w0, wf_i64 w1⟩
set_option maxRecDepth 100000 in
theorem open_runsP {fuel : Nat} {ao : Option Addr} {len cap : Nat} {d : DataW H} {p : List MemPlace} (h : DataW.trod enc Try.prog W 0 (fun _ => true) true fuel 39 [.slice ao len cap] = some (d, p)) :
    len ≤ maxLen ∧ ∃ L Y, P2At (fun _ => True) W ao len L Y := by
  have hc2 : Try.prog.cellsOf 75 = 2 := by kernel_rfl
  rcases open_slice Try.underlying39 h with ⟨hcs, _⟩ | ⟨a, l, c, m, n, D, Pl, hcs, _, hl, hml, hm, hx, hel⟩
  · injection hcs with hcs
    injection hcs with e1 e2 e3
    subst e2; subst e3
    exact ⟨by unfold maxLen; omega, fun _ => 0, fun _ => 0, fun i hi => by omega⟩
  · injection hcs with hcs
    injection hcs with e1 e2 e3
    subst e1; subst e2; subst e3
    have hlm : len ≤ m := by rw [hm]; simp; exact hl
    refine ⟨by omega, ?_⟩
    have key : ∀ i, ∃ x : Int × Int, i < len → (I64 x.1 ∧ I64 x.2) ∧ W.cell? (a.add (i * 2)) = some (.int .i64 x.1) ∧ W.cell? ((a.add (i * 2)).add 1) = some (.int .i64 x.2) := by
      intro i
      by_cases hi : i < len
      · obtain ⟨cs', h1, h2⟩ := hel i (by omega)
        rw [hc2] at h1
        obtain ⟨l, y, rfl, hr⟩ := open_runP h2
        obtain ⟨_, _, hg⟩ := World.cells?_some h1
        refine ⟨(l, y), fun _ => ⟨hr, ?_, hg 1 (by omega)⟩⟩
        have := hg 0 (by omega)
        simpa [Addr.add] using this
      · exact ⟨(0, 0), fun h => absurd h hi⟩
    obtain ⟨F, hF⟩ := Classical.axiomOfChoice key
    refine ⟨fun i => (F i).1, fun i => (F i).2, fun i hi => ?_⟩
    obtain ⟨k0, k1, k2⟩ := hF i hi
    have hsp := spot_none (hF 0 (by omega)).2.1
    obtain ⟨b, off, sp⟩ := a
    have hsn : sp = none := by simpa [Addr.add] using hsp
    subst hsn
    simp only [Addr.add_lit] at k1 k2
    exact ⟨k0, b, off, rfl, trivial, k1, k2⟩
set_option maxRecDepth 100000 in
/-- One line. -/
theorem open_lineP {fuel : Nat} {cs : List Value} {d : DataW H} {p : List MemPlace} (h : DataW.trod enc Try.prog W 0 (fun _ => true) true fuel 41 cs = some (d, p)) :
    ∃ x : Lne, cs = x.cells ∧ LneR x ∧ P2At (fun _ => True) W x.ra x.rn x.L x.Y := by
  obtain ⟨xs, nn, _, hx, hl, hlen, hf⟩ := DataW.trod_struct Try.underlying41 h
  have hcn : Try.prog.cellsOf 41 = 9 := by kernel_rfl
  rw [hcn] at hl
  have k3 : Try.prog.cellsOf 3 = 1 := by kernel_rfl
  have k4 : Try.prog.cellsOf 4 = 1 := by kernel_rfl
  have k9 : Try.prog.cellsOf 9 = 1 := by kernel_rfl
  have kr : Try.prog.cellsOf 39 = 1 := by kernel_rfl
  obtain ⟨c0, c1, c2, c3, c4, c5, c6, c7, c8, rfl⟩ : ∃ c0 c1 c2 c3 c4 c5 c6 c7 c8, cs = [c0, c1, c2, c3, c4, c5, c6, c7, c8] := by
    match cs, hl with
    | [c0, c1, c2, c3, c4, c5, c6, c7, c8], _ => exact ⟨c0, c1, c2, c3, c4, c5, c6, c7, c8, rfl⟩
  obtain ⟨y0, y1, y2, y3, y4, y5, y6, y7, y8, rfl⟩ : ∃ y0 y1 y2 y3 y4 y5 y6 y7 y8, xs = [y0, y1, y2, y3, y4, y5, y6, y7, y8] := by
    match xs, hlen with
    | [y0, y1, y2, y3, y4, y5, y6, y7, y8], _ => exact ⟨y0, y1, y2, y3, y4, y5, y6, y7, y8, rfl⟩
  have g0 := hf 0 _ rfl
  have g1 := hf 1 _ rfl
  have g2 := hf 2 _ rfl
  have g3 := hf 3 _ rfl
  have g4 := hf 4 _ rfl
  have g5 := hf 5 _ rfl
  have g6 := hf 6 _ rfl
  have g7 := hf 7 _ rfl
  have g8 := hf 8 _ rfl
  simp [k3, k4, k9, kr] at g0 g1 g2 g3 g4 g5 g6 g7 g8
  obtain ⟨b0, e0, x0, w0⟩ := DataW.trod_string Try.underlying9 g0
  obtain ⟨b2, e2, _, w2⟩ := DataW.trod_int Try.underlying3 g2
  obtain ⟨b3, e3, _, w3⟩ := DataW.trod_int Try.underlying3 g3
  obtain ⟨b4, e4, _, w4⟩ := DataW.trod_int Try.underlying3 g4
  obtain ⟨b5, e5, _⟩ := DataW.trod_bool Try.underlying4 g5
  obtain ⟨b6, e6, _, w6⟩ := DataW.trod_int Try.underlying3 g6
  obtain ⟨b7, e7, _⟩ := DataW.trod_bool Try.underlying4 g7
  obtain ⟨b8, e8, _⟩ := DataW.trod_bool Try.underlying4 g8
  injection e0 with e0
  injection e2 with e2
  injection e3 with e3
  injection e4 with e4
  injection e5 with e5
  injection e6 with e6
  injection e7 with e7
  injection e8 with e8
  subst e0; subst e2; subst e3; subst e4; subst e5; subst e6; subst e7; subst e8
  obtain ⟨ra, rn, rc, rfl⟩ : ∃ ra rn rc, c1 = .slice ra rn rc := by
    rcases open_slice Try.underlying39 g1 with ⟨hcs, _⟩ | ⟨a, l, c, m, n, D, Pl, hcs, _⟩
    · injection hcs with hcs; exact ⟨_, _, _, hcs⟩
    · injection hcs with hcs; exact ⟨_, _, _, hcs⟩
  obtain ⟨q1, L, Y, q2⟩ := open_runsP g1
  exact ⟨⟨b0, ra, rn, rc, b2, b3, b4, b5, b6, b7, b8, L, Y⟩, rfl, ⟨w0, ⟨q1, open_cap g1⟩, wf_i64 w2, wf_i64 w3, wf_i64 w4, wf_i64 w6⟩, q2⟩
set_option maxRecDepth 100000 in
/-- How long a line's text may be. -/
theorem line_text {fuel : Nat} {x : Lne} {d : DataW H} {p : List MemPlace} (h : DataW.trod enc Try.prog W 0 (fun _ => true) true fuel 41 x.cells = some (d, p)) (hw : ∀ n ∈ d.weights Try.prog 41, n ≤ reachBytes) : x.tx.size ≤ 140737488351232 := by
  obtain ⟨xs, nn, _, hx, hl, hlen, hf⟩ := DataW.trod_struct Try.underlying41 h
  have k9 : Try.prog.cellsOf 9 = 1 := by kernel_rfl
  obtain ⟨y0, y1, y2, y3, y4, y5, y6, y7, y8, rfl⟩ : ∃ y0 y1 y2 y3 y4 y5 y6 y7 y8, xs = [y0, y1, y2, y3, y4, y5, y6, y7, y8] := by
    match xs, hlen with
    | [y0, y1, y2, y3, y4, y5, y6, y7, y8], _ => exact ⟨y0, y1, y2, y3, y4, y5, y6, y7, y8, rfl⟩
  have g0 := hf 0 _ rfl
  simp [k9, Lne.cells] at g0
  obtain ⟨b0, e0, x0, w0⟩ := DataW.trod_string Try.underlying9 g0
  injection e0 with e0
  injection e0 with e0
  injection hx with hx1 hx2
  subst hx1
  have := hw b0.data.toList.length (by
    simp only [DataW.weights, Try.underlying41]
    exact DataW.weights_mem_each (j := 0) rfl rfl _ (by rw [x0]; simp [DataW.weights]))
  rw [e0]
  have e1 : b0.size = b0.data.toList.length := Array.length_toList.symm
  unfold reachBytes at this
  omega
/-- Lines. -/
theorem open_linesP {fuel : Nat} {ao : Option Addr} {len cap : Nat} {d : DataW H} {p : List MemPlace} (h : DataW.trod enc Try.prog W 0 (fun _ => true) true fuel 60 [.slice ao len cap] = some (d, p)) (hw : ∀ n ∈ d.weights Try.prog 60, n ≤ reachBytes) :
    ∃ F, PgvOk ⟨ao, len, cap, F⟩ ∧ LnsAt (fun _ => True) W ao len F := by
  have hc9 : Try.prog.cellsOf 41 = 9 := by kernel_rfl
  rcases open_slice Try.underlying60 h with ⟨hcs, _⟩ | ⟨a, l, c, m, n, D, Pl, hcs, _, hl, hml, hm, hx, hel⟩
  · injection hcs with hcs
    injection hcs with e1 e2 e3
    subst e1; subst e2; subst e3
    exact ⟨fun _ => Lne.zero, ⟨by unfold maxLen; simp only; omega, ⟨Nat.le_refl _, fun _ => rfl⟩, fun i hi => by simp only at hi; omega⟩, fun i hi => by omega⟩
  · injection hcs with hcs
    injection hcs with e1 e2 e3
    subst e1; subst e2; subst e3
    have hlm : len ≤ m := by rw [hm]; simp; exact hl
    injection hx with hx1 hx2
    have key : ∀ i, ∃ x : Lne, i < len → ((LneR x ∧ x.tx.size ≤ 140737488351232) ∧ P2At (fun _ => True) W x.ra x.rn x.L x.Y) ∧ ∀ j, j < 9 → W.cell? ((a.add (i * 9)).add j) = x.cells[j]? := by
      intro i
      by_cases hi : i < len
      · obtain ⟨cs', h1, h2⟩ := hel i (by omega)
        rw [hc9] at h1
        obtain ⟨x, rfl, hr⟩ := open_lineP h2
        have htx := line_text h2 (fun n hn => hw n (by
          rw [hx1]
          simp only [DataW.weights, Try.underlying60]
          refine List.mem_cons_of_mem _ (List.mem_append.2 (Or.inl ?_))
          exact weights_all (List.mem_map.2 ⟨i, by simpa using hi, rfl⟩) n hn))
        obtain ⟨_, _, hg⟩ := World.cells?_some h1
        refine ⟨x, fun _ => ⟨⟨⟨hr.1, htx⟩, hr.2⟩, fun j hj => ?_⟩⟩
        have := hg j (by simpa [Lne.cells] using hj)
        rw [this]
      · exact ⟨Lne.zero, fun h => absurd h hi⟩
    obtain ⟨F, hF⟩ := Classical.axiomOfChoice key
    refine ⟨F, ⟨by simp only; omega, ⟨hl, fun e => by cases e⟩, fun i hi => ?_⟩, fun i hi => ?_⟩
    · obtain ⟨⟨k1, k2⟩, -⟩ := (hF i hi).1
      exact ⟨k2, k1.rn, k1.num, k1.den, k1.h, k1.y⟩
    obtain ⟨k0, k1⟩ := hF i hi
    have hsp := spot_none (v := .string (F 0).tx) ((hF 0 (by omega)).2 0 (by omega))
    obtain ⟨b, off, sp⟩ := a
    have hsn : sp = none := by simpa [Addr.add] using hsp
    subst hsn
    simp only [Addr.add_lit] at k1
    exact ⟨k0.2, b, off, rfl, trivial, k1 0 (by omega), k1 1 (by omega), k1 2 (by omega), k1 3 (by omega), k1 4 (by omega), k1 5 (by omega), k1 6 (by omega), k1 7 (by omega), k1 8 (by omega)⟩
set_option maxRecDepth 100000 in
/-- One page. -/
theorem open_page {fuel : Nat} {cs : List Value} {d : DataW H} {p : List MemPlace} (h : DataW.trod enc Try.prog W 0 (fun _ => true) true fuel 62 cs = some (d, p)) (hw : ∀ n ∈ d.weights Try.prog 62, n ≤ reachBytes) :
    ∃ v : Pgv, cs = [.slice v.la v.ln v.lc] ∧ PgvOk v ∧ LnsAt (fun _ => True) W v.la v.ln v.F := by
  obtain ⟨xs, nn, _, hx, hl, hlen, hf⟩ := DataW.trod_struct Try.underlying62 h
  have hcn : Try.prog.cellsOf 62 = 1 := by kernel_rfl
  rw [hcn] at hl
  have kr : Try.prog.cellsOf 60 = 1 := by kernel_rfl
  obtain ⟨c0, rfl⟩ : ∃ c0, cs = [c0] := by
    match cs, hl with
    | [c0], _ => exact ⟨c0, rfl⟩
  obtain ⟨y0, rfl⟩ : ∃ y0, xs = [y0] := by
    match xs, hlen with
    | [y0], _ => exact ⟨y0, rfl⟩
  have g0 := hf 0 _ rfl
  simp [kr] at g0
  obtain ⟨ra, rn, rc, rfl⟩ : ∃ ra rn rc, c0 = .slice ra rn rc := by
    rcases open_slice Try.underlying60 g0 with ⟨hcs, _⟩ | ⟨a, l, c, m, n, D, Pl, hcs, _⟩
    · injection hcs with hcs; exact ⟨_, _, _, hcs⟩
    · injection hcs with hcs; exact ⟨_, _, _, hcs⟩
  injection hx with hx1 hx2
  subst hx1
  obtain ⟨F, q1, q2⟩ := open_linesP g0 (fun n hn => hw n (by
    simp only [DataW.weights, Try.underlying62]
    exact DataW.weights_mem_each (j := 0) rfl rfl _ hn))
  exact ⟨⟨ra, rn, rc, F⟩, rfl, q1, q2⟩
/-- Pages. -/
theorem open_pages {fuel : Nat} {ao : Option Addr} {len cap : Nat} {d : DataW H} {p : List MemPlace} (h : DataW.trod enc Try.prog W 0 (fun _ => true) true fuel 22 [.slice ao len cap] = some (d, p)) (hw : ∀ n ∈ d.weights Try.prog 22, n ≤ reachBytes) :
    (len ≤ maxLen ∧ Sl ao cap len) ∧ ∃ P, PgsR (fun _ => True) W ao len P := by
  have hc1 : Try.prog.cellsOf 62 = 1 := by kernel_rfl
  rcases open_slice Try.underlying22 h with ⟨hcs, _⟩ | ⟨a, l, c, m, n, D, Pl, hcs, _, hl, hml, hm, hx, hel⟩
  · injection hcs with hcs
    injection hcs with e1 e2 e3
    subst e1; subst e2; subst e3
    exact ⟨⟨by unfold maxLen; omega, ⟨Nat.le_refl _, fun _ => rfl⟩⟩, fun _ => ⟨none, 0, 0, fun _ => Lne.zero⟩, fun i hi => by omega⟩
  · injection hcs with hcs
    injection hcs with e1 e2 e3
    subst e1; subst e2; subst e3
    have hlm : len ≤ m := by rw [hm]; simp; exact hl
    refine ⟨⟨by omega, ⟨hl, fun e => by cases e⟩⟩, ?_⟩
    injection hx with hx1 hx2
    have key : ∀ i, ∃ v : Pgv, i < len → (PgvOk v ∧ LnsAt (fun _ => True) W v.la v.ln v.F) ∧ W.cell? (a.add i) = some (.slice v.la v.ln v.lc) := by
      intro i
      by_cases hi : i < len
      · obtain ⟨cs', h1, h2⟩ := hel i (by omega)
        rw [hc1, Nat.mul_one] at h1
        obtain ⟨v, rfl, hr⟩ := open_page h2 (fun n hn => hw n (by
          rw [hx1]
          simp only [DataW.weights, Try.underlying22]
          refine List.mem_cons_of_mem _ (List.mem_append.2 (Or.inl ?_))
          exact weights_all (List.mem_map.2 ⟨i, by simpa using hi, rfl⟩) n hn))
        obtain ⟨_, _, hg⟩ := World.cells?_some h1
        refine ⟨v, fun _ => ⟨hr, ?_⟩⟩
        have := hg 0 (by simp)
        simpa [Addr.add] using this
      · exact ⟨⟨none, 0, 0, fun _ => Lne.zero⟩, fun h => absurd h hi⟩
    obtain ⟨P, hP⟩ := Classical.axiomOfChoice key
    refine ⟨P, fun i hi => ?_⟩
    obtain ⟨⟨k0, k2⟩, k1⟩ := hP i hi
    have hsp := spot_none (hP 0 (by omega)).2
    obtain ⟨b, off, sp⟩ := a
    have hsn : sp = none := by simpa [Addr.add] using hsp
    subst hsn
    simp only [Addr.add_lit] at k1
    exact ⟨k0, k2, b, off, rfl, trivial, k1⟩
end
end Go.Proofs.Ytcdcpmcjlchfgaa
