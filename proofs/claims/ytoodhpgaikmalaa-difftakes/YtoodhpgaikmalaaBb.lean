/-
  Lines and their runs as they lie in memory; what the library's clones make, and what the document's Same tells of two lines (by mkbb.py).
-/
import Derived.Test.YtoodhpgaikmalaaBa
import Derived.Lib.SliceRun
import Derived.Laws.MakeOwn
import Derived.Lib.QuietBelow
import Derived.Deep.Cut
import Derived.Lib.Strings
import Derived.Lib.Walk
import Derived.Lib.BufferWrite
import Derived.Lib.UnsafeStr
import Derived.Lib.Hide
import Derived.Deep.CutRange
import Derived.Deep.DeepCutAuto
namespace Go.Proofs.Ytoodhpgaikmalaa
open Go.RowKit
set_option linter.unusedSimpArgs false
set_option linter.unusedVariables false
theorem cell_first (w : World) (cs : Array Value) (t : TypeId) (i : Nat) : (w.alloc (.cells cs t)).cell? ⟨w.heap.size, i, none⟩ = cs[i]? := by
  rw [cell_of_row _ _ _ _ _ _ (heap_alloc_new w (.cells cs t))]
theorem kept_first {w w2 : World} {cs : Array Value} {t : TypeId} (hb : Below (w.alloc (.cells cs t)).heap.size (w.alloc (.cells cs t)) w2) (j : Nat) : w2.cell? ⟨w.heap.size, j, none⟩ = cs[j]? := by
  rw [hb.cell (p := ⟨w.heap.size, j, none⟩) (by simp)]
  exact cell_first _ _ _ _
theorem kept_below {B : Nat} {w w1 w2 : World} {o : Obj} (h1 : Below B w w1) (hB : B ≤ w.heap.size) (hb : Below (w1.alloc o).heap.size (w1.alloc o) w2) : Below B w w2 := by
  have hz := Nat.le_trans hB h1.size
  exact (h1.alloc hz _).trans (hb.mono (by simp; omega))
theorem own_down {w : World} {B B' e size n : Nat} {v : Value} {xs : List Value} (h : w.ownsRow B e size v n xs) (hB : B' ≤ B) : w.ownsRow B' e size v n xs :=
  ⟨h.1, h.2.imp id (fun ⟨g, c, cu, x1, x2, x3⟩ => ⟨g, c, cu, x1, Nat.le_trans hB x2, x3⟩)⟩
theorem arr_at {W : World} {G k : Nat} {arr : Array Value} {t : TypeId} (e : W.heap[G]? = some (.cells arr t (0, 0))) (hk : k < arr.size) : W.cell? ⟨G, k, none⟩ = some arr[k] ∧ W.frozen? ⟨G, k, none⟩ = false := by
  refine ⟨?_, ?_⟩
  · rw [cell_of_row W G k arr t (0, 0) e]; simp [hk]
  · unfold World.frozen?; rw [e]; simp
theorem arr_set {W : World} {G k : Nat} {arr : Array Value} {t : TypeId} (v : Value) (e : W.heap[G]? = some (.cells arr t (0, 0))) : (W.setCell ⟨G, k, none⟩ v).heap[G]? = some (.cells (arr.setIfInBounds k v) t (0, 0)) := by
  simp [World.setCell, Array.getElem?_modify, e]
theorem row_free {W : World} {b : Nat} {arr : Array Value} {t : TypeId} (e : W.heap[b]? = some (.cells arr t (0, 0))) (k : Nat) : W.frozen? ⟨b, k, none⟩ = false := by
  unfold World.frozen?; rw [e]; simp
theorem heap_lt {w : World} {b : Nat} {o : Obj} (h : w.heap[b]? = some o) : b < w.heap.size := by
  by_cases c : b < w.heap.size
  · exact c
  · rw [Array.getElem?_eq_none (by omega)] at h; cases h
theorem laid1 (w : World) (A : Obj) : (w.alloc A).heap[w.heap.size]? = some A ∧ Below w.heap.size w (w.alloc A) ∧ (w.alloc A).heap.size = w.heap.size + 1 :=
  ⟨heap_alloc_new w A, (Below.refl _ _).alloc (Nat.le_refl _) _, by simp⟩
theorem laid2 (w : World) (A B : Obj) : ((w.alloc A).alloc B).heap[w.heap.size]? = some A ∧ ((w.alloc A).alloc B).heap[w.heap.size + 1]? = some B ∧ Below w.heap.size w ((w.alloc A).alloc B) ∧ ((w.alloc A).alloc B).heap.size = w.heap.size + 2 := by
  refine ⟨?_, ?_, ?_, by simp⟩
  · rw [Below.heap_alloc _ _ _ (by simp)]; exact heap_alloc_new w A
  · have := heap_alloc_new (w.alloc A) B
    simpa using this
  · exact ((Below.refl _ _).alloc (Nat.le_refl _) _).alloc (by simp) _
structure Lne where
  tx : ByteArray
  ra : Option Addr
  rn : Nat
  rc : Nat
  num : Int
  den : Int
  h : Int
  hy : Bool
  y : Int
  bg : Bool
  en : Bool
  L : Nat → Int
  Y : Nat → Int
def Lne.zero : Lne := ⟨⟨#[]⟩, none, 0, 0, 0, 0, 0, false, 0, false, false, fun _ => 0, fun _ => 0⟩
def Lne.cells (x : Lne) : List Value := [.string x.tx, .slice x.ra x.rn x.rc, .int .i64 x.num, .int .i64 x.den, .int .i64 x.h, .bool x.hy, .int .i64 x.y, .bool x.bg, .bool x.en]
def Lne.val (x : Lne) : Value := .agg #[.string x.tx, .slice x.ra x.rn x.rc, .int .i64 x.num, .int .i64 x.den, .int .i64 x.h, .bool x.hy, .int .i64 x.y, .bool x.bg, .bool x.en]
/-- Lines as they lie in memory, with their runs, in blocks that S names. -/
def LnsAt (S : Nat → Prop) (w : World) (ao : Option Addr) (n : Nat) (F : Nat → Lne) : Prop := ∀ i, i < n → P2At S w (F i).ra (F i).rn (F i).L (F i).Y ∧ ∃ b off, ao = some ⟨b, off, none⟩ ∧ S b ∧
    w.cell? ⟨b, off + i * 9, none⟩ = some (.string (F i).tx) ∧ w.cell? ⟨b, off + i * 9 + 1, none⟩ = some (.slice (F i).ra (F i).rn (F i).rc) ∧ w.cell? ⟨b, off + i * 9 + 2, none⟩ = some (.int .i64 (F i).num) ∧ w.cell? ⟨b, off + i * 9 + 3, none⟩ = some (.int .i64 (F i).den) ∧ w.cell? ⟨b, off + i * 9 + 4, none⟩ = some (.int .i64 (F i).h) ∧ w.cell? ⟨b, off + i * 9 + 5, none⟩ = some (.bool (F i).hy) ∧ w.cell? ⟨b, off + i * 9 + 6, none⟩ = some (.int .i64 (F i).y) ∧ w.cell? ⟨b, off + i * 9 + 7, none⟩ = some (.bool (F i).bg) ∧ w.cell? ⟨b, off + i * 9 + 8, none⟩ = some (.bool (F i).en)
theorem LnsAt.keep {S S' : Nat → Prop} {w w' : World} {ao : Option Addr} {n : Nat} {F : Nat → Lne} (h : LnsAt S w ao n F) (k : Kp S S' w w') : LnsAt S' w' ao n F := by
  intro i hi
  obtain ⟨hr, b, off, e, hs, c0, c1, c2, c3, c4, c5, c6, c7, c8⟩ := h i hi
  exact ⟨hr.keep k, b, off, e, (k _ _ _ hs c0).1, (k _ _ _ hs c0).2, (k _ _ _ hs c1).2, (k _ _ _ hs c2).2, (k _ _ _ hs c3).2, (k _ _ _ hs c4).2, (k _ _ _ hs c5).2, (k _ _ _ hs c6).2, (k _ _ _ hs c7).2, (k _ _ _ hs c8).2⟩
theorem LnsAt.below {S : Nat → Prop} {w w' : World} {ao : Option Addr} {n : Nat} {F : Nat → Lne} (h : LnsAt S w ao n F) (hb : Below w.heap.size w w') : LnsAt S w' ao n F := h.keep (kp_below hb)
/-- Lines alike but for their runs. -/
def lnB (x y : Lne) : Bool := (x.num == y.num && x.den == y.den) && (x.h == y.h && x.y == y.y) && (x.hy == y.hy && x.bg == y.bg && x.en == y.en) && (x.tx.toList == y.tx.toList)
section
variable {w : World}
set_option maxRecDepth 100000 in
set_option maxHeartbeats 4000000 in
theorem refsame10_any (S S' : Nat → Prop) (x y : Lne) (hx : P2At S w x.ra x.rn x.L x.Y) (hy : P2At S' w y.ra y.rn y.L y.Y) (hxn : x.rn ≤ 1048576) :
    Calls Try.prog 27 #[x.val, y.val] w fun e w' => ∃ r, e = .returned (.bool r) ∧ (r = true ↔ lnB x y = true ∧ x.rn = y.rn ∧ ∀ i, i < x.rn → x.L i = y.L i ∧ x.Y i = y.Y i) ∧ Below w.heap.size w w' := by
  unfold Lne.val
  have HS := boxed (fun W (hb : Below w.heap.size w W) => rsame_any S S' W x.ra y.ra x.rn y.rn x.rc y.rc x.L x.Y y.L y.Y (hx.below hb) (hy.below hb) hxn)
  have HL := boxed (show lnB x y = ((x.num == y.num && x.den == y.den) && (x.h == y.h && x.y == y.y) && (x.hy == y.hy && x.bg == y.bg && x.en == y.en) && (x.tx.toList == y.tx.toList)) from rfl)
  generalize lnB x y = V at *
  clear hx hy hxn
  obtain ⟨D, hD⟩ : ∃ D : Prop, (x.rn = y.rn ∧ ∀ i, i < x.rn → x.L i = y.L i ∧ x.Y i = y.Y i) = D := ⟨_, rfl⟩
  rw [hD] at HS ⊢
  clear hD
  obtain ⟨x1, x2, x3, x4, x5, x6, x7, x8, x9, xa, xb, xc, xd⟩ := x
  obtain ⟨y1, y2, y3, y4, y5, y6, y7, y8, y9, ya, yb, yc, yd⟩ := y
  simp only at HS HL ⊢
  clear xc xd yc yd
  go_enter Try.func27, Try.ntmps27
  go_wp2_with fail
  all_goals first
    | (go_ret; exact ⟨_, rfl, by rw [HL.out]; simp [*], by go_grown⟩)
    | (refine (HS.out _ (by go_grown)).mono ?_; rintro e w1 ⟨r, rfl, hr, hb1⟩; have HF := boxed (And.intro hr (below_step (B := w.heap.size) (w := w) (by go_grown) (Nat.le_refl _) hb1)); clear hr hb1 HS; go_wp2_with fail; go_ret; exact ⟨r, rfl, by rw [HL.out, HF.out.1]; simp [*], HF.out.2⟩)
end
/-- 9 values in a block. -/
theorem cells9 {W : World} {rb : Nat} {v0 v1 v2 v3 v4 v5 v6 v7 v8 : Value} {t : TypeId} (e : W.heap[rb]? = some (.cells #[v0, v1, v2, v3, v4, v5, v6, v7, v8] t (0, 0))) : (W.cell? ⟨rb, 0, none⟩ = some v0 ∧ W.cell? ⟨rb, 1, none⟩ = some v1 ∧ W.cell? ⟨rb, 2, none⟩ = some v2 ∧ W.cell? ⟨rb, 3, none⟩ = some v3 ∧ W.cell? ⟨rb, 4, none⟩ = some v4 ∧ W.cell? ⟨rb, 5, none⟩ = some v5 ∧ W.cell? ⟨rb, 6, none⟩ = some v6 ∧ W.cell? ⟨rb, 7, none⟩ = some v7 ∧ W.cell? ⟨rb, 8, none⟩ = some v8) ∧ W.frozen? ⟨rb, 0, none⟩ = false ∧ W.frozen? ⟨rb, 1, none⟩ = false ∧ W.frozen? ⟨rb, 2, none⟩ = false ∧ W.frozen? ⟨rb, 3, none⟩ = false ∧ W.frozen? ⟨rb, 4, none⟩ = false ∧ W.frozen? ⟨rb, 5, none⟩ = false ∧ W.frozen? ⟨rb, 6, none⟩ = false ∧ W.frozen? ⟨rb, 7, none⟩ = false ∧ W.frozen? ⟨rb, 8, none⟩ = false := by
  refine ⟨⟨?_, ?_, ?_, ?_, ?_, ?_, ?_, ?_, ?_⟩, ?_, ?_, ?_, ?_, ?_, ?_, ?_, ?_, ?_⟩
  · simp [World.cell?, e]
  · simp [World.cell?, e]
  · simp [World.cell?, e]
  · simp [World.cell?, e]
  · simp [World.cell?, e]
  · simp [World.cell?, e]
  · simp [World.cell?, e]
  · simp [World.cell?, e]
  · simp [World.cell?, e]
  · unfold World.frozen?; rw [e]; simp
  · unfold World.frozen?; rw [e]; simp
  · unfold World.frozen?; rw [e]; simp
  · unfold World.frozen?; rw [e]; simp
  · unfold World.frozen?; rw [e]; simp
  · unfold World.frozen?; rw [e]; simp
  · unfold World.frozen?; rw [e]; simp
  · unfold World.frozen?; rw [e]; simp
  · unfold World.frozen?; rw [e]; simp
/-- The cells of runs. -/
def rvs (L Y : Nat → Int) : Nat → List Value
  | 0 => []
  | k + 1 => rvs L Y k ++ [.int .i64 (L k), .int .i64 (Y k)]
theorem rvs_len (L Y : Nat → Int) (n : Nat) : (rvs L Y n).length = n * 2 := by
  induction n with
  | zero => rfl
  | succ n ih => simp [rvs, ih]; omega
theorem rvs_get (L Y : Nat → Int) (n i : Nat) (h : i < n) : (rvs L Y n)[i * 2]? = some (.int .i64 (L i)) ∧ (rvs L Y n)[i * 2 + 1]? = some (.int .i64 (Y i)) := by
  induction n with
  | zero => omega
  | succ n ih =>
    have hl := rvs_len L Y n
    simp only [rvs]
    by_cases c : i < n
    · rw [List.getElem?_append_left (by omega), List.getElem?_append_left (by omega)]
      exact ih c
    · obtain rfl : i = n := by omega
      rw [List.getElem?_append_right (by omega), List.getElem?_append_right (by omega), hl]
      simp
theorem rvs_one (L Y : Nat → Int) (n : Nat) : ∀ u ∈ rvs L Y n, u.oneCell' = true := by
  induction n with
  | zero => intro u hu; simp [rvs] at hu
  | succ n ih =>
    intro u hu
    simp only [rvs, List.mem_append] at hu
    rcases hu with hu | hu
    · exact ih u hu
    · simp at hu; rcases hu with rfl | rfl <;> rfl
set_option maxHeartbeats 4000000 in
set_option maxRecDepth 100000 in
theorem cloneS_any (s : ByteArray) (w : World) (hlim : s.size ≤ 281474976710656) :
    Calls Try.prog 39 #[.string s] w fun e w' => e = .returned (.string s) ∧ Below w.heap.size w w' := by
  by_cases h0 : s.size = 0
  · have hs : s = ⟨#[]⟩ := by
      apply ByteArray.ext
      exact Array.eq_empty_of_size_eq_zero h0
    subst hs
    go_enter Try.func39, Try.ntmps39
    go_wp2
    go_ret
    exact ⟨rfl, Below.refl _ _⟩
  · obtain ⟨i0, hi, hz0, hz1, hz2⟩ := info_parts (show (Try.prog.info? 5).map (fun i => (i.zero, i.size, i.bytes)) = some (some (.int .u8 0), 1, 1) by kernel_rfl)
    have hinfo : (Try.prog.info? 5).map (·.size) = some 1 := by rw [hi]; simp [hz1]
    have hco : Try.prog.cellsOf 5 = 1 := by kernel_rfl
    obtain ⟨M, hM⟩ : ∃ M, M = madeCells (Value.int .u8 0).cells (((s.size : Nat) : Int).toNat * i0.size) := ⟨_, rfl⟩
    have hMs : M.size = s.size := by rw [hM, size_madeCells, hz1]; simp
    have hmk : ∀ W : World, (Instr.makeSlice 71 (.int .i64 (s.size : Int)) (.int .i64 (s.size : Int))).run Try.prog W = .ok (.slice (some ⟨W.heap.size, 0, none⟩) s.size s.size) (W.alloc (.cells M 5)) := fun W => by
      have h := run_make (P := Try.prog) W 71 5 i0 (.int .u8 0) Try.underlying71 hi hz0 .i64 .i64 (s.size : Int) (s.size : Int) (by omega) (by omega) (by rw [hz2]; omega) (by omega)
      rw [← hM] at h
      simpa using h
    clear hM
    have hcp := Lib.run_copy_row_string (P := Try.prog) (w.alloc (.cells M 5)) 71 9 3 5 w.heap.size 0 s.size s.size s M 5 Try.underlying71 hinfo (heap_alloc_new w _) (Nat.le_refl _) (by omega)
    obtain ⟨Y, hY⟩ : ∃ Y, Y = (M.toList.take 0 ++ Lib.byteCells s.data.toList ++ M.toList.drop (0 + s.size)).toArray := ⟨_, rfl⟩
    rw [← hY] at hcp
    have hYl : Y.toList = Lib.byteCells s.data.toList := by
      rw [hY, List.toList_toArray, List.take_zero, List.nil_append, List.drop_of_length_le (by rw [Array.length_toList]; omega), List.append_nil]
    have hYs : Y.size = s.size := by rw [← Array.length_toList, hYl, Lib.byteCells_length, ← Lib.size_eq]
    have hgY : ((w.alloc (.cells M 5)).setRow w.heap.size Y).heap[w.heap.size]? = some (.cells Y 5 (0, 0)) := setRow_heap _ _ M _ 5 (0, 0) (heap_alloc_new w _)
    have hne : s.data.toList ≠ [] := fun e => h0 (by rw [Lib.size_eq, e]; rfl)
    have hUS := Lib.run_unsafeString_row (P := Try.prog) ((w.alloc (.cells M 5)).setRow w.heap.size Y) 72 3 9 5 Try.underlying72 hco w.heap.size Y.size (by unfold World.shape?; rw [hgY]) s.data.toList hne (by rw [← Lib.size_eq]; omega) (by rw [← Lib.size_eq]; omega)
      (fun j x hx => Lib.cells_of_row hgY Y.size j _ (by rw [List.take_of_length_le (by rw [Array.length_toList]; exact Nat.le_refl _), hYl]; simp [Lib.byteCells, hx]))
    rw [← Lib.size_eq] at hUS
    clear hY
    go_enter Try.func39, Try.ntmps39
    go_wp2
    go_ret
    have hb1 : Below w.heap.size w (w.alloc (.cells M 5)) := (Below.refl _ w).alloc (Nat.le_refl _) _
    have hb2 : Below w.heap.size (w.alloc (.cells M 5)) ((w.alloc (.cells M 5)).setRow w.heap.size Y) := ⟨rfl, rfl, rfl, by simp, fun k hk => setRow_other _ _ _ _ (by omega)⟩
    exact ⟨rfl, Lib.below_freeze (hb1.trans hb2) (p := ⟨w.heap.size, 0, none⟩) (Nat.le_refl _) _⟩
theorem clone_any (s : ByteArray) (w : World) (h : s.size ≤ 281474976710656) : Calls Try.prog 36 #[.string s] w fun e w' => e = .returned (.string s) ∧ Below w.heap.size w w' := by
  have hc := cloneS_any s w h
  go_enter Try.func36, Try.ntmps36
  go_wp2_with fail
  refine hc.mono ?_
  rintro e w1 ⟨rfl, hb⟩
  go_wp2_with fail
  go_ret
  exact ⟨rfl, hb⟩
/-- The cells of lines. -/
def lnec (l : List Lne) : List Value := l.flatMap Lne.cells
theorem lnec_app (l m : List Lne) : lnec (l ++ m) = lnec l ++ lnec m := by simp [lnec]
theorem lnec_one (x : Lne) : lnec [x] = x.cells := by simp [lnec]
theorem lnec_len (l : List Lne) : (lnec l).length = l.length * 9 := by
  induction l with
  | nil => rfl
  | cons x r ih =>
    have : lnec (x :: r) = x.cells ++ lnec r := by simp [lnec]
    rw [this, List.length_append, ih]
    simp [Lne.cells]; omega
theorem lnec_get (l : List Lne) (i j : Nat) (hi : i < l.length) (hj : j < 9) : (lnec l)[i * 9 + j]? = ((l.getD i Lne.zero).cells)[j]? := by
  induction l generalizing i with
  | nil => simp at hi
  | cons x r ih =>
    have e : lnec (x :: r) = x.cells ++ lnec r := by simp [lnec]
    rw [e]
    have hx : x.cells.length = 9 := rfl
    cases i with
    | zero => rw [List.getElem?_append_left (by omega)]; simp
    | succ i =>
      rw [List.getElem?_append_right (by omega), show (i + 1) * 9 + j - x.cells.length = i * 9 + j by omega, ih i (by simpa using hi)]
      simp
def nthL (l : List Lne) (i : Nat) : Lne := l.getD i Lne.zero
theorem own_rvs {w : World} {B n cap : Nat} {ao : Option Addr} {L Y : Nat → Int} (h : w.ownsRow B 58 2 (.slice ao n cap) n (rvs L Y n)) (hi : ∀ i, i < n → I64 (L i) ∧ I64 (Y i)) : P2At (fun b => B ≤ b) w ao n L Y := by
  intro i hin
  rcases ownsRow_forms h with ⟨e, h0⟩ | ⟨g, cp, e⟩
  · omega
  · injection e with e1 e2 e3
    subst e1
    have g := rvs_get L Y n i hin
    refine ⟨hi i hin, _, 0, rfl, (h.lt _ rfl).1, ?_, ?_⟩
    · rw [Nat.zero_add, h.cellAt (i * 2) (by omega)]; exact g.1
    · rw [Nat.zero_add, h.cellAt (i * 2 + 1) (by omega)]; exact g.2
set_option maxHeartbeats 2000000 in
set_option maxRecDepth 100000 in
theorem cloneR_any (S : Nat → Prop) (ao : Option Addr) (n c : Nat) (L Y : Nat → Int) (w : World) (h : P2At S w ao n L Y) (hm : n ≤ 262144) :
    Calls Try.prog 37 #[.slice ao n c] w fun e w' => ∃ ao' c', e = .returned (.slice ao' n c') ∧ w'.ownsRow w.heap.size 58 2 (.slice ao' n c') n (rvs L Y n) ∧ Below w.heap.size w w' := by
  obtain ⟨i0, hi, hz0, hz1, hz2⟩ := info_parts info_run
  have q22 : ∀ (w : World) (a : Option Addr) (n c n' c' : Nat), (binOp .eql 35 (.slice a n c) (.slice none n' c')).run Try.prog w = .ok (.bool a.isNone) w := fun w a n c n' c' => Lib.run_eql_slice_nil w _ _ a n c n' c' Try.underlying35
  have u22 : ∀ w, Sem.run Try.prog (underlying 35) w = .ok (TypeDesc.slice 58) w := run_underlying Try.underlying35
  cases ao with
  | none =>
    have h0 : n = 0 := by
      by_cases c : n = 0
      · exact c
      · obtain ⟨-, b, off, e, -⟩ := h 0 (by omega)
        cases e
    subst h0
    clear h
    go_enter Try.func37, Try.ntmps37
    go_wp2_with fail
    go_ret
    exact ⟨_, _, rfl, World.ownsRow_nil _ _ _ _, Below.refl _ _⟩
  | some ad =>
    have HC : Box (∀ W, Below w.heap.size w W → ∀ j u, (rvs L Y n)[j]? = some u → W.cell? (ad.add j) = some u) := boxed (by
      intro W hb j u hj
      have hl : j < (rvs L Y n).length := (List.getElem?_eq_some_iff.1 hj).1
      rw [rvs_len] at hl
      obtain ⟨p1, p2⟩ := rvs_get L Y n (j / 2) (by omega)
      obtain ⟨-, b, off, e, -, c0, c1⟩ := (h.below hb) (j / 2) (by omega)
      injection e with e
      subst e
      rw [Addr.add_lit]
      by_cases hp : j % 2 = 0
      · have ej : j = j / 2 * 2 := by omega
        rw [← ej] at p1 c0
        rw [hj] at p1
        rw [c0, p1]
      · have ej : j = j / 2 * 2 + 1 := by omega
        rw [Nat.add_assoc, ← ej] at c1
        rw [← ej] at p2
        rw [hj] at p2
        rw [c1, p2])
    clear h
    by_cases h0 : n = 0
    · subst h0
      have hb1 : Below w.heap.size w (w.alloc (.cells #[] 58)) := (Below.refl _ w).alloc (Nat.le_refl _) _
      have hmade := World.ownsRow_made (base := w.heap.size) (e := 58) (size := 2) w #[] 0 (Nat.le_refl _) (Nat.zero_le _) rfl
      go_enter Try.func37, Try.ntmps37
      go_wp2_with fail
      go_ret
      exact ⟨_, _, rfl, hmade, hb1⟩
    · go_enter Try.func37, Try.ntmps37
      go_wp2_with (at_builtin; refine wpList_append_own _ rfl _ _ 35 rfl w.heap.size 58 i0 _ 2 16 Try.underlying35 hi hz0 hz1 hz2 rfl (by decide) _ _ _ rfl (World.ownsRow_made w #[] 0 (Nat.le_refl _) (Nat.zero_le _) rfl) ad n c (rvs L Y n) rfl ?qc1 ?qc2 ?qc3 ?qc4 ?qc5 ?qc6 ?_)
      case qc1 => rw [rvs_len]
      case qc2 => exact HC.out _ ((Below.refl _ w).alloc (Nat.le_refl _) _)
      case qc3 => exact rvs_one _ _ _
      case qc4 => unfold maxLen; omega
      case qc5 => omega
      case qc6 => simp
      intro v' w1 hown hgrow hnil
      have hown2 : w1.ownsRow w.heap.size 58 2 v' n (rvs L Y n) := by simpa using hown
      obtain ⟨ao', c', rfl⟩ := own_shape hown2
      have HO := boxed hown2
      have HB := boxed (((Below.refl _ w).alloc (Nat.le_refl _) _).grown hgrow (by simp) (by intro k hk; simp [Value.ownBlock] at hk; omega))
      clear hown hown2 hgrow hnil
      go_wp2
      go_ret
      exact ⟨ao', c', rfl, HO.out, HB.out⟩
/-- Nine values put into a row. -/
def set9 (W : World) (A o : Nat) (v0 v1 v2 v3 v4 v5 v6 v7 v8 : Value) : World := (((((((((W.setCell ⟨A, o, none⟩ v0).setCell ⟨A, o + 1, none⟩ v1).setCell ⟨A, o + 2, none⟩ v2).setCell ⟨A, o + 3, none⟩ v3).setCell ⟨A, o + 4, none⟩ v4).setCell ⟨A, o + 5, none⟩ v5).setCell ⟨A, o + 6, none⟩ v6).setCell ⟨A, o + 7, none⟩ v7).setCell ⟨A, o + 8, none⟩ v8)
def ar9 (arr : Array Value) (o : Nat) (v0 v1 v2 v3 v4 v5 v6 v7 v8 : Value) : Array Value := (((((((((arr.setIfInBounds (o) v0).setIfInBounds (o + 1) v1).setIfInBounds (o + 2) v2).setIfInBounds (o + 3) v3).setIfInBounds (o + 4) v4).setIfInBounds (o + 5) v5).setIfInBounds (o + 6) v6).setIfInBounds (o + 7) v7).setIfInBounds (o + 8) v8)
theorem set9_heap {W : World} {A o : Nat} {arr : Array Value} {t : TypeId} (v0 v1 v2 v3 v4 v5 v6 v7 v8 : Value) (e : W.heap[A]? = some (.cells arr t (0, 0))) : (set9 W A o v0 v1 v2 v3 v4 v5 v6 v7 v8).heap[A]? = some (.cells (ar9 arr o v0 v1 v2 v3 v4 v5 v6 v7 v8) t (0, 0)) := by
  unfold set9 ar9
  exact arr_set _ (arr_set _ (arr_set _ (arr_set _ (arr_set _ (arr_set _ (arr_set _ (arr_set _ (arr_set _ e))))))))
theorem set9_grown (W : World) (A o : Nat) (v0 v1 v2 v3 v4 v5 v6 v7 v8 : Value) : W.grownBy (set9 W A o v0 v1 v2 v3 v4 v5 v6 v7 v8) (some A) := by
  unfold set9
  exact grown_trans (grown_trans (grown_trans (grown_trans (grown_trans (grown_trans (grown_trans (grown_trans (grown_set _ _ _ _) (grown_set _ _ _ _)) (grown_set _ _ _ _)) (grown_set _ _ _ _)) (grown_set _ _ _ _)) (grown_set _ _ _ _)) (grown_set _ _ _ _)) (grown_set _ _ _ _)) (grown_set _ _ _ _)
theorem ar9_size (arr : Array Value) (o : Nat) (v0 v1 v2 v3 v4 v5 v6 v7 v8 : Value) : (ar9 arr o v0 v1 v2 v3 v4 v5 v6 v7 v8).size = arr.size := by simp [ar9]
theorem ar9_far (arr : Array Value) (o j : Nat) (v0 v1 v2 v3 v4 v5 v6 v7 v8 : Value) (h : j < o) : (ar9 arr o v0 v1 v2 v3 v4 v5 v6 v7 v8)[j]? = arr[j]? := by
  unfold ar9
  rw [Array.getElem?_setIfInBounds_ne (by omega), Array.getElem?_setIfInBounds_ne (by omega), Array.getElem?_setIfInBounds_ne (by omega), Array.getElem?_setIfInBounds_ne (by omega), Array.getElem?_setIfInBounds_ne (by omega), Array.getElem?_setIfInBounds_ne (by omega), Array.getElem?_setIfInBounds_ne (by omega), Array.getElem?_setIfInBounds_ne (by omega), Array.getElem?_setIfInBounds_ne (by omega)]
theorem ar9_at (arr : Array Value) (o r : Nat) (v0 v1 v2 v3 v4 v5 v6 v7 v8 : Value) (hr : r < 9) (h : o + 8 < arr.size) : (ar9 arr o v0 v1 v2 v3 v4 v5 v6 v7 v8)[o + r]? = [v0, v1, v2, v3, v4, v5, v6, v7, v8][r]? := by
  unfold ar9
  rcases (show r = 0 ∨ r = 1 ∨ r = 2 ∨ r = 3 ∨ r = 4 ∨ r = 5 ∨ r = 6 ∨ r = 7 ∨ r = 8 by omega) with rfl | rfl | rfl | rfl | rfl | rfl | rfl | rfl | rfl
  · rw [Array.getElem?_setIfInBounds_ne (by omega), Array.getElem?_setIfInBounds_ne (by omega), Array.getElem?_setIfInBounds_ne (by omega), Array.getElem?_setIfInBounds_ne (by omega), Array.getElem?_setIfInBounds_ne (by omega), Array.getElem?_setIfInBounds_ne (by omega), Array.getElem?_setIfInBounds_ne (by omega), Array.getElem?_setIfInBounds_ne (by omega)]
    simp [Array.getElem?_setIfInBounds]; omega
  · rw [Array.getElem?_setIfInBounds_ne (by omega), Array.getElem?_setIfInBounds_ne (by omega), Array.getElem?_setIfInBounds_ne (by omega), Array.getElem?_setIfInBounds_ne (by omega), Array.getElem?_setIfInBounds_ne (by omega), Array.getElem?_setIfInBounds_ne (by omega), Array.getElem?_setIfInBounds_ne (by omega)]
    simp [Array.getElem?_setIfInBounds]; omega
  · rw [Array.getElem?_setIfInBounds_ne (by omega), Array.getElem?_setIfInBounds_ne (by omega), Array.getElem?_setIfInBounds_ne (by omega), Array.getElem?_setIfInBounds_ne (by omega), Array.getElem?_setIfInBounds_ne (by omega), Array.getElem?_setIfInBounds_ne (by omega)]
    simp [Array.getElem?_setIfInBounds]; omega
  · rw [Array.getElem?_setIfInBounds_ne (by omega), Array.getElem?_setIfInBounds_ne (by omega), Array.getElem?_setIfInBounds_ne (by omega), Array.getElem?_setIfInBounds_ne (by omega), Array.getElem?_setIfInBounds_ne (by omega)]
    simp [Array.getElem?_setIfInBounds]; omega
  · rw [Array.getElem?_setIfInBounds_ne (by omega), Array.getElem?_setIfInBounds_ne (by omega), Array.getElem?_setIfInBounds_ne (by omega), Array.getElem?_setIfInBounds_ne (by omega)]
    simp [Array.getElem?_setIfInBounds]; omega
  · rw [Array.getElem?_setIfInBounds_ne (by omega), Array.getElem?_setIfInBounds_ne (by omega), Array.getElem?_setIfInBounds_ne (by omega)]
    simp [Array.getElem?_setIfInBounds]; omega
  · rw [Array.getElem?_setIfInBounds_ne (by omega), Array.getElem?_setIfInBounds_ne (by omega)]
    simp [Array.getElem?_setIfInBounds]; omega
  · rw [Array.getElem?_setIfInBounds_ne (by omega)]
    simp [Array.getElem?_setIfInBounds]; omega
  · simp [Array.getElem?_setIfInBounds]; omega
theorem info_line : (Try.prog.info? 37).map (fun i => (i.zero, i.size, i.bytes)) = some (some (.agg #[.string ⟨#[]⟩, .slice none 0 0, .int .i64 0, .int .i64 0, .int .i64 0, .bool false, .int .i64 0, .bool false, .bool false]), 9, 88) := by kernel_rfl
theorem LnsAt.get {S : Nat → Prop} {w : World} {b off n : Nat} {F : Nat → Lne} (h : LnsAt S w (some ⟨b, off, none⟩) n F) (i : Nat) (hi : i < n) : P2At S w (F i).ra (F i).rn (F i).L (F i).Y ∧
    w.cell? ⟨b, off + i * 9, none⟩ = some (.string (F i).tx) ∧ w.cell? ⟨b, off + i * 9 + 1, none⟩ = some (.slice (F i).ra (F i).rn (F i).rc) ∧ w.cell? ⟨b, off + i * 9 + 2, none⟩ = some (.int .i64 (F i).num) ∧ w.cell? ⟨b, off + i * 9 + 3, none⟩ = some (.int .i64 (F i).den) ∧ w.cell? ⟨b, off + i * 9 + 4, none⟩ = some (.int .i64 (F i).h) ∧ w.cell? ⟨b, off + i * 9 + 5, none⟩ = some (.bool (F i).hy) ∧ w.cell? ⟨b, off + i * 9 + 6, none⟩ = some (.int .i64 (F i).y) ∧ w.cell? ⟨b, off + i * 9 + 7, none⟩ = some (.bool (F i).bg) ∧ w.cell? ⟨b, off + i * 9 + 8, none⟩ = some (.bool (F i).en) := by
  obtain ⟨h1, b', off', e, -, c⟩ := h i hi
  injection e with e
  injection e with e1 e2 e3
  subst e1; subst e2
  exact ⟨h1, c⟩
theorem LnsAt.form {S : Nat → Prop} {w : World} {ao : Option Addr} {n : Nat} {F : Nat → Lne} (h : LnsAt S w ao n F) (hn : 0 < n) : ∃ b off, ao = some ⟨b, off, none⟩ ∧ b < w.heap.size := by
  obtain ⟨-, b, off, e, -, c0, -⟩ := h 0 hn
  exact ⟨b, off, e, World.block_lt_of_cell? w _ c0⟩
theorem heap_set_far {W : World} {b A k : Nat} (v : Value) (h : b ≠ A) : (W.setCell ⟨A, k, none⟩ v).heap[b]? = W.heap[b]? := heap_setCell_other W ⟨A, k, none⟩ b v (by simpa using h)
end Go.Proofs.Ytoodhpgaikmalaa
