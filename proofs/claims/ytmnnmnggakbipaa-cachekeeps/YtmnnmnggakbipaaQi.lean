/-
  The cache's entries as they lie in memory, in a row from the front to the end; rows of pointers to them: slices.Index and slices.Delete.
-/
import Derived.Test.YtmnnmnggakbipaaQf
import Derived.Test.YtmnnmnggakbipaaQh
import Derived.LaidEqlPtr
import Derived.Lib.SliceRun
import Derived.Lib.SlicesDelete
import Derived.Deep.RegionLaw
namespace Go.Proofs.Ytmnnmnggakbipaa
open Go.RowKit
set_option linter.unusedSimpArgs false
set_option linter.unusedVariables false

/-- What lies in blocks that D does not name is as it was. -/
structure Chg (D : Nat → Prop) (w w' : World) : Prop where
  os : w'.os = w.os
  tape : w'.tape = w.tape
  output : w'.output = w.output
  size : w.heap.size ≤ w'.heap.size
  block : ∀ k, k < w.heap.size → ¬ D k → w'.heap[k]? = w.heap[k]?
theorem Chg.refl (D : Nat → Prop) (w : World) : Chg D w w := ⟨rfl, rfl, rfl, Nat.le_refl _, fun _ _ _ => rfl⟩
theorem Chg.trans {D : Nat → Prop} {a b c : World} (h : Chg D a b) (k : Chg D b c) : Chg D a c :=
  ⟨k.os.trans h.os, k.tape.trans h.tape, k.output.trans h.output, Nat.le_trans h.size k.size, fun i hi hd => (k.block i (Nat.lt_of_lt_of_le hi h.size) hd).trans (h.block i hi hd)⟩
theorem Chg.mono {D D' : Nat → Prop} {w w' : World} (h : Chg D w w') (hd : ∀ b, b < w.heap.size → D b → D' b) : Chg D' w w' :=
  ⟨h.os, h.tape, h.output, h.size, fun i hi hn => h.block i hi (fun c => hn (hd i hi c))⟩
theorem Chg.of_below {D : Nat → Prop} {w w' : World} (h : Below w.heap.size w w') : Chg D w w' := ⟨h.os, h.tape, h.output, h.size, fun i hi _ => h.block i hi⟩
theorem Chg.of_grown {D : Nat → Prop} {w w' : World} {r : Option Nat} (h : w.grownBy w' r) (hr : ∀ g, r = some g → D g) : Chg D w w' := ⟨h.os, h.tape, h.output, h.size, fun i hi hn => h.block i hi (fun e => hn (hr i e.symm))⟩
theorem Chg.set {D : Nat → Prop} (w : World) (b i : Nat) (u : Value) (h : D b) : Chg D w (w.setCell ⟨b, i, none⟩ u) := Chg.of_grown (grown_set w b i u) (fun g e => by injection e with e; subst e; exact h)
/-- Below a number that D does not reach nothing has changed. -/
theorem Chg.below {D : Nat → Prop} {B : Nat} {w w' : World} (h : Chg D w w') (hB : B ≤ w.heap.size) (hd : ∀ b, D b → B ≤ b) : Below B w w' :=
  ⟨h.os, h.tape, h.output, h.size, fun k hk => h.block k (by omega) (fun c => by have := hd k c; omega)⟩
theorem Chg.kp {D : Nat → Prop} {w w' : World} (h : Chg D w w') : Kp (fun b => ¬ D b) (fun b => ¬ D b) w w' := fun b i u hs hc => ⟨hs, by
  have hb := World.block_lt_of_cell? w _ hc
  rw [World.cell?_of_block (a := ⟨b, i, none⟩) (h.block b hb hs)]; exact hc⟩
theorem Chg.drewN {D : Nat → Prop} {w w' : World} (h : Chg D w w') (n : Nat) : Chg D w (w'.drewN n) := h.trans (Chg.of_below (bel_drewN _ _ _))

/-- An entry: where it lies, its key, its value. -/
structure En where
  b : Nat
  k : Kv
  v : Int
def pt (o : Option Nat) : Value := .pointer (o.map fun b => ⟨b, 0, none⟩)
def enC (e : En) (a z : Option Nat) : Array Value := #[.string e.k.tx, .slice e.k.ra e.k.rn e.k.rc, .int .i64 e.k.ta, .int .i64 e.k.wd, .int .i64 e.k.s.t, .int .i64 e.k.s.l, .int .i64 e.k.s.a, .int .i64 e.k.s.d, .int .i64 e.k.s.z, .int .i64 e.k.s.o, .int .i64 e.k.s.i, (.int .i64 e.v), .int .u64 (hsh e.k.ky), pt a, pt z]
def EnAt (w : World) (e : En) (a z : Option Nat) : Prop := w.heap[e.b]? = some (.cells (enC e a z) 78 (0, 0))
def hd (L : List En) (z : Option Nat) : Option Nat := match L with
  | [] => z
  | e :: _ => some e.b
def lst (a : Option Nat) : List En → Option Nat
  | [] => a
  | e :: r => lst (some e.b) r
/-- Entries one behind the other. -/
def Seg (w : World) : Option Nat → List En → Option Nat → Prop
  | _, [], _ => True
  | a, e :: r, z => EnAt w e a (hd r z) ∧ Seg w (some e.b) r z
theorem hd_app (A B : List En) (z : Option Nat) : hd (A ++ B) z = hd A (hd B z) := by cases A <;> rfl
theorem lst_app (a : Option Nat) (A B : List En) : lst a (A ++ B) = lst (lst a A) B := by
  induction A generalizing a with
  | nil => rfl
  | cons e r ih => exact ih _
theorem seg_app {w : World} {a z : Option Nat} {A B : List En} : Seg w a (A ++ B) z ↔ Seg w a A (hd B z) ∧ Seg w (lst a A) B z := by
  induction A generalizing a with
  | nil => simp [Seg, lst]
  | cons e r ih => simp only [List.cons_append, Seg, hd_app, lst, ih, and_assoc]
theorem Seg.keep {w w' : World} {a z : Option Nat} {L : List En} (h : Seg w a L z) (hb : ∀ e ∈ L, w'.heap[e.b]? = w.heap[e.b]?) : Seg w' a L z := by
  induction L generalizing a with
  | nil => trivial
  | cons e r ih => exact ⟨(hb e (by simp)).trans h.1, ih h.2 (fun x hx => hb x (by simp [hx]))⟩
theorem Seg.lt {w : World} {a z : Option Nat} {L : List En} (h : Seg w a L z) : ∀ e ∈ L, e.b < w.heap.size := by
  induction L generalizing a with
  | nil => intro e he; cases he
  | cons e r ih =>
    intro x hx
    rcases List.mem_cons.1 hx with rfl | hx
    · exact heap_lt h.1
    · exact ih h.2 x hx
theorem Seg.get {w : World} {a z : Option Nat} {L : List En} (h : Seg w a L z) : ∀ e ∈ L, ∃ p q, EnAt w e p q := by
  induction L generalizing a with
  | nil => intro e he; cases he
  | cons e r ih =>
    intro x hx
    rcases List.mem_cons.1 hx with rfl | hx
    · exact ⟨_, _, h.1⟩
    · exact ih h.2 x hx
theorem EnAt.ahead {w : World} {e : En} {a z : Option Nat} (h : EnAt w e a z) (a' : Option Nat) : EnAt (w.setCell ⟨e.b, 13, none⟩ (pt a')) e a' z := arr_set (pt a') h
theorem EnAt.behind {w : World} {e : En} {a z : Option Nat} (h : EnAt w e a z) (z' : Option Nat) : EnAt (w.setCell ⟨e.b, 14, none⟩ (pt z')) e a z' := arr_set (pt z') h
theorem set_other (w : World) (b i k : Nat) (u : Value) (h : k ≠ b) : (w.setCell ⟨b, i, none⟩ u).heap[k]? = w.heap[k]? := Below.heap_setCell _ _ _ _ h
/-- The last one's place behind is written. -/
theorem Seg.last {w : World} {a z : Option Nat} {A : List En} {e : En} (h : Seg w a (A ++ [e]) z) (hn : e.b ∉ A.map En.b) (z' : Option Nat) : Seg (w.setCell ⟨e.b, 14, none⟩ (pt z')) a (A ++ [e]) z' := by
  rw [seg_app] at h ⊢
  refine ⟨h.1.keep (fun x hx => set_other _ _ _ _ _ (fun c => hn (List.mem_map.2 ⟨x, hx, c⟩))), EnAt.behind h.2.1 z', trivial⟩
/-- The first one's place ahead is written. -/
theorem Seg.first {w : World} {a z : Option Nat} {B : List En} {e : En} (h : Seg w a (e :: B) z) (hn : e.b ∉ B.map En.b) (a' : Option Nat) : Seg (w.setCell ⟨e.b, 13, none⟩ (pt a')) a' (e :: B) z :=
  ⟨EnAt.ahead h.1 a', h.2.keep (fun x hx => set_other _ _ _ _ _ (fun c => hn (List.mem_map.2 ⟨x, hx, c⟩)))⟩

/-- The cache's own cells. -/
def caC (room cnt fo mi : Int) (mb : Nat) (f e : Option Nat) : Array Value := #[.int .i64 room, .int .i64 cnt, .int .i64 fo, .int .i64 mi, .map (some mb), pt f, pt e]
def CaB (w : World) (cb : Nat) (room cnt fo mi : Int) (mb : Nat) (f e : Option Nat) : Prop := w.heap[cb]? = some (.cells (caC room cnt fo mi mb f e) 76 (0, 0))
theorem CaB.ne {w : World} {cb : Nat} {room cnt fo mi : Int} {mb : Nat} {f z : Option Nat} (h : CaB w cb room cnt fo mi mb f z) {e : En} {p q : Option Nat} (he : EnAt w e p q) : e.b ≠ cb := by
  intro c
  unfold EnAt at he
  unfold CaB at h
  rw [c, h] at he
  injection he with he
  injection he with _ he
  cases he
theorem CaB.cells {w : World} {cb : Nat} {room cnt fo mi : Int} {mb : Nat} {f z : Option Nat} (h : CaB w cb room cnt fo mi mb f z) : w.cell? ⟨cb, 0, none⟩ = some (.int .i64 room) ∧ w.cell? ⟨cb, 1, none⟩ = some (.int .i64 cnt) ∧ w.cell? ⟨cb, 2, none⟩ = some (.int .i64 fo) ∧ w.cell? ⟨cb, 3, none⟩ = some (.int .i64 mi) ∧ w.cell? ⟨cb, 4, none⟩ = some (.map (some mb)) ∧ w.cell? ⟨cb, 5, none⟩ = some (pt f) ∧ w.cell? ⟨cb, 6, none⟩ = some (pt z) := cells7 h
theorem EnAt.cells {w : World} {e : En} {a z : Option Nat} (h : EnAt w e a z) : w.cell? ⟨e.b, 0, none⟩ = some (.string e.k.tx) ∧ w.cell? ⟨e.b, 1, none⟩ = some (.slice e.k.ra e.k.rn e.k.rc) ∧ w.cell? ⟨e.b, 2, none⟩ = some (.int .i64 e.k.ta) ∧ w.cell? ⟨e.b, 3, none⟩ = some (.int .i64 e.k.wd) ∧ w.cell? ⟨e.b, 4, none⟩ = some (.int .i64 e.k.s.t) ∧ w.cell? ⟨e.b, 5, none⟩ = some (.int .i64 e.k.s.l) ∧ w.cell? ⟨e.b, 6, none⟩ = some (.int .i64 e.k.s.a) ∧ w.cell? ⟨e.b, 7, none⟩ = some (.int .i64 e.k.s.d) ∧ w.cell? ⟨e.b, 8, none⟩ = some (.int .i64 e.k.s.z) ∧ w.cell? ⟨e.b, 9, none⟩ = some (.int .i64 e.k.s.o) ∧ w.cell? ⟨e.b, 10, none⟩ = some (.int .i64 e.k.s.i) ∧ w.cell? ⟨e.b, 11, none⟩ = some (.int .i64 e.v) ∧ w.cell? ⟨e.b, 12, none⟩ = some (.int .u64 (hsh e.k.ky)) ∧ w.cell? ⟨e.b, 13, none⟩ = some (pt a) ∧ w.cell? ⟨e.b, 14, none⟩ = some (pt z) := cells15 h

/-- A row of pointers. -/
def pts (bs : List Nat) : List Value := bs.map fun b => .pointer (some ⟨b, 0, none⟩)
theorem pts_len (bs : List Nat) : (pts bs).length = bs.length := by simp [pts]
theorem pts_get (bs : List Nat) (i : Nat) : (pts bs)[i]? = bs[i]?.map fun b => .pointer (some ⟨b, 0, none⟩) := by simp [pts]
theorem pts_one (bs : List Nat) : ∀ u ∈ pts bs, u.oneCell' = true := by
  intro u hu
  obtain ⟨b, -, rfl⟩ := List.mem_map.1 hu
  rfl

theorem info_size {P : Program} {t : TypeId} {n : Nat} (h : (P.info? t).map (·.size) = some n) : ∃ i, P.info? t = some i ∧ i.size = n := by
  cases hi : P.info? t with
  | none => rw [hi] at h; cases h
  | some i => rw [hi] at h; exact ⟨i, rfl, by simpa using h⟩
set_option maxRecDepth 100000 in
set_option maxHeartbeats 2000000 in
theorem index_any (g cap : Nat) (bs : List Nat) (b : Nat) (w : World) (hc : ∀ j x, bs[j]? = some x → w.cell? ⟨g, j, none⟩ = some (.pointer (some ⟨x, 0, none⟩))) (hl : bs.length ≤ 100000) (hb : b ∈ bs)
    (hh : ∀ x ∈ bs, ∃ cs t, w.heap[x]? = some (.cells cs t (0, 0))) :
    Calls Try.prog 56 #[.slice (some ⟨g, 0, none⟩) bs.length cap, .pointer (some ⟨b, 0, none⟩)] w fun e w' => ∃ i : Nat, e = .returned (.int .i64 (i : Nat)) ∧ bs[i]? = some b ∧ w' = w := by
  have hp : Try.prog.underlying 74 = some (.pointer 78) := by kernel_rfl
  obtain ⟨i0, hi, hs⟩ := info_size (show (Try.prog.info? 78).map (·.size) = some 15 by kernel_rfl)
  have hsame := fun W => run_eql_ptr_same (P := Try.prog) W ⟨b, 0, none⟩ hp hi
  obtain ⟨cb, tb, hcb⟩ := hh b hb
  have HO : Box (∀ x ∈ bs, x ≠ b → (binOp .eql 74 (.pointer (some ⟨b, 0, none⟩)) (.pointer (some ⟨x, 0, none⟩))).run Try.prog w = .ok (.bool false) w) := boxed (fun x hx hne => by
    obtain ⟨cx, tx, hcx⟩ := hh x hx
    exact run_eql_ptr_other w hp hi (by omega) (fun e => hne (by injection e with e; exact e.symm)) hcb hcx)
  have HC := boxed hc
  have HM := boxed hb
  have HE : Box (∀ j, j < bs.length → ∃ x, bs[j]? = some x) := boxed (fun j hj => ⟨bs[j], List.getElem?_eq_getElem hj⟩)
  clear hh hcb hc hb
  go_enter Try.func56, Try.ntmps56
  go_wp2_with fail
  go_loopw [8] (fun vi wr => ∃ i : Nat, i ≤ bs.length ∧ vi = .int .i64 (i : Nat) ∧ Box (w = wr) ∧ Box (∀ j, j < i → bs[j]? ≠ some b)) (fun vi _ => bs.length - (intOf vi).toNat)
  case atStart => exact ⟨0, Nat.zero_le _, rfl, boxed rfl, boxed (fun j hj => by omega)⟩
  case round =>
    obtain ⟨i, hin, rfl, ⟨hwr⟩, HN⟩ := hrel
    subst wr
    by_cases hlt : i < bs.length
    · obtain ⟨x, hx⟩ := HE.out i hlt
      have hcx := HC.out i x hx
      by_cases cx : x = b
      · subst cx
        have HX := boxed hx
        clear hx
        go_wp2
        go_ret
        exact ⟨i, rfl, HX.out, rfl⟩
      · have hne := HO.out x (List.mem_of_getElem? hx) cx
        have HN2 : Box (∀ j, j < i + 1 → bs[j]? ≠ some b) := boxed (fun j hj => by
          by_cases d : j = i
          · subst d; rw [hx]; intro c; injection c with c; exact cx c
          · exact HN.out j (by omega))
        clear hx cx hsame HN
        go_wp2_with fail
        go_roundw
        case rel => exact ⟨i + 1, by omega, by go_num, boxed (by trivial), HN2⟩
        case measure => simp [intOf]; omega
    · exfalso
      obtain ⟨j, hj, e⟩ := List.getElem_of_mem HM.out
      exact HN.out j (by omega) (by rw [List.getElem?_eq_getElem hj, e])

/-- The row's cells behind a row of stores. -/
theorem setCells_heap (g : Nat) (T : TypeId) : ∀ (vs : List Value) (o : Nat) (w : World) (cur : Array Value), w.heap[g]? = some (.cells cur T (0, 0)) → (w.setCells g o vs).heap[g]? = some (.cells (Lib.lay cur o vs) T (0, 0))
  | [], _, _, _, h => h
  | v :: r, o, w, cur, h => by
    rw [World.setCells, Lib.lay]
    refine setCells_heap g T r (o + 1) _ _ ?_
    have := arr_set (k := o) v h
    simpa using this
theorem setCells_grown (g : Nat) : ∀ (vs : List Value) (o : Nat) (w : World), w.grownBy (w.setCells g o vs) (some g)
  | [], _, w => World.grownBy.refl w _
  | v :: r, o, w => grown_trans (grown_set w g o v) (setCells_grown g r (o + 1) _)
end Go.Proofs.Ytmnnmnggakbipaa
