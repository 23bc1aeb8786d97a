/-
  Lines and their runs as they lie in memory; what strings.Clone makes, and what the document's Same tells of two lines.
-/
import Derived.Test.YtjchioopfljjhabHn
import Derived.Lib.Strings
import Derived.Lib.Walk
import Derived.Lib.BufferWrite
import Derived.Lib.UnsafeStr
import Derived.Lib.Hide
import Derived.Deep.CutRange
import Derived.Deep.DeepCutAuto
namespace Go.Proofs.Ytjchioopfljjhab
open Go.RowKit
set_option linter.unusedSimpArgs false
set_option linter.unusedVariables false

def P2At (S : Nat → Prop) (w : World) (ao : Option Addr) (n : Nat) (A Y : Nat → Int) : Prop := ∀ i, i < n → (I64 (A i) ∧ I64 (Y i)) ∧ ∃ b off, ao = some ⟨b, off, none⟩ ∧ S b ∧
    w.cell? ⟨b, off + i * 2, none⟩ = some (.int .i64 (A i)) ∧ w.cell? ⟨b, off + i * 2 + 1, none⟩ = some (.int .i64 (Y i))
theorem P2At.keep {S S' : Nat → Prop} {w w' : World} {ao : Option Addr} {n : Nat} {A Y : Nat → Int} (h : P2At S w ao n A Y) (k : Kp S S' w w') : P2At S' w' ao n A Y := by
  intro i hi
  obtain ⟨h1, b, off, e, hs, c0, c1⟩ := h i hi
  exact ⟨h1, b, off, e, (k _ _ _ hs c0).1, (k _ _ _ hs c0).2, (k _ _ _ hs c1).2⟩
theorem P2At.form {S : Nat → Prop} {w : World} {ao : Option Addr} {n : Nat} {A Y : Nat → Int} (h : P2At S w ao n A Y) (hn : 0 < n) : ∃ b off, ao = some ⟨b, off, none⟩ ∧ S b := by
  obtain ⟨-, b, off, e, hs, -, -⟩ := h 0 hn
  exact ⟨b, off, e, hs⟩
theorem P2At.get {S : Nat → Prop} {w : World} {b off n : Nat} {A Y : Nat → Int} (h : P2At S w (some ⟨b, off, none⟩) n A Y) (i : Nat) (hi : i < n) : w.cell? ⟨b, off + i * 2, none⟩ = some (.int .i64 (A i)) ∧ w.cell? ⟨b, off + i * 2 + 1, none⟩ = some (.int .i64 (Y i)) := by
  obtain ⟨-, b', off', e, -, c0, c1⟩ := h i hi
  injection e with e
  injection e with e1 e2 e3
  subst e1; subst e2
  exact ⟨c0, c1⟩
theorem P2At.below {S : Nat → Prop} {w w' : World} {ao : Option Addr} {n : Nat} {A Y : Nat → Int} (h : P2At S w ao n A Y) (hb : Below w.heap.size w w') : P2At S w' ao n A Y := h.keep (kp_below hb)
theorem info_run : (Try.prog.info? 35).map (fun i => (i.zero, i.size, i.bytes)) = some (some (.agg #[.int .i64 0, .int .i64 0]), 2, 16) := by kernel_rfl
theorem run_append_nothing {P : Program} {w : World} (base : Nat) (t ty e : TypeId) (i : TypeInfo) (size c : Nat) (ht : P.underlying t = some (.slice e)) (hi : P.info? e = some i)
    (v : Value) (n : Nat) (xs : List Value) (hown : w.ownsRow base e size v n xs) :
    (Builtin.append_ #[t, t] ty #[v, .slice none 0 c]).run P w = .ok v w := by
  rcases hown.2 with ⟨rfl, rfl⟩ | ⟨g, cap, cur, rfl, _, _, hnc, _⟩
  · simp [Builtin.append_, run_underlying ht, sizeOf, typeInfo, hi, Builtin.lenOf, Builtin.firstCells]
  · simp [Builtin.append_, run_underlying ht, sizeOf, typeInfo, hi, Builtin.lenOf, Builtin.firstCells, hnc, storeCells]
structure Lne where
  tx : ByteArray
  ra : Option Addr
  rn : Nat
  rc : Nat
  num : Int
  den : Int
  h : Int
  hy : Bool
  y : Int
  bg : Bool
  en : Bool
  L : Nat → Int
  Y : Nat → Int
def Lne.zero : Lne := ⟨⟨#[]⟩, none, 0, 0, 0, 0, 0, false, 0, false, false, fun _ => 0, fun _ => 0⟩
def Lne.cells (x : Lne) : List Value := [.string x.tx, .slice x.ra x.rn x.rc, .int .i64 x.num, .int .i64 x.den, .int .i64 x.h, .bool x.hy, .int .i64 x.y, .bool x.bg, .bool x.en]
def Lne.val (x : Lne) : Value := .agg #[.string x.tx, .slice x.ra x.rn x.rc, .int .i64 x.num, .int .i64 x.den, .int .i64 x.h, .bool x.hy, .int .i64 x.y, .bool x.bg, .bool x.en]
/-- Lines as they lie in memory, with their runs, in blocks that S names. -/
def LnsAt (S : Nat → Prop) (w : World) (ao : Option Addr) (n : Nat) (F : Nat → Lne) : Prop := ∀ i, i < n → P2At S w (F i).ra (F i).rn (F i).L (F i).Y ∧ ∃ b off, ao = some ⟨b, off, none⟩ ∧ S b ∧
    w.cell? ⟨b, off + i * 9, none⟩ = some (.string (F i).tx) ∧ w.cell? ⟨b, off + i * 9 + 1, none⟩ = some (.slice (F i).ra (F i).rn (F i).rc) ∧ w.cell? ⟨b, off + i * 9 + 2, none⟩ = some (.int .i64 (F i).num) ∧ w.cell? ⟨b, off + i * 9 + 3, none⟩ = some (.int .i64 (F i).den) ∧ w.cell? ⟨b, off + i * 9 + 4, none⟩ = some (.int .i64 (F i).h) ∧ w.cell? ⟨b, off + i * 9 + 5, none⟩ = some (.bool (F i).hy) ∧ w.cell? ⟨b, off + i * 9 + 6, none⟩ = some (.int .i64 (F i).y) ∧ w.cell? ⟨b, off + i * 9 + 7, none⟩ = some (.bool (F i).bg) ∧ w.cell? ⟨b, off + i * 9 + 8, none⟩ = some (.bool (F i).en)
theorem LnsAt.keep {S S' : Nat → Prop} {w w' : World} {ao : Option Addr} {n : Nat} {F : Nat → Lne} (h : LnsAt S w ao n F) (k : Kp S S' w w') : LnsAt S' w' ao n F := by
  intro i hi
  obtain ⟨hr, b, off, e, hs, c0, c1, c2, c3, c4, c5, c6, c7, c8⟩ := h i hi
  exact ⟨hr.keep k, b, off, e, (k _ _ _ hs c0).1, (k _ _ _ hs c0).2, (k _ _ _ hs c1).2, (k _ _ _ hs c2).2, (k _ _ _ hs c3).2, (k _ _ _ hs c4).2, (k _ _ _ hs c5).2, (k _ _ _ hs c6).2, (k _ _ _ hs c7).2, (k _ _ _ hs c8).2⟩
theorem LnsAt.below {S : Nat → Prop} {w w' : World} {ao : Option Addr} {n : Nat} {F : Nat → Lne} (h : LnsAt S w ao n F) (hb : Below w.heap.size w w') : LnsAt S w' ao n F := h.keep (kp_below hb)
theorem guardR : Try.prog.eqGuardType Try.prog.depth 35 = false := by kernel_rfl
theorem eqRun (a b d e : Int) (w : World) : (Op.equalIn 10000 35 (.agg #[.int .i64 a, .int .i64 b]) (.agg #[.int .i64 d, .int .i64 e])).run Try.prog w = .ok (a == d && b == e) w := by
  have u3 := Try.underlying3
  have hS : Try.prog.underlying 35 = some (.struct (Try.prog.fieldsOf 35)) := by kernel_rfl
  have hp : Try.prog.stoodInHeld 35 = false := by kernel_rfl
  rw [show (10000 : Nat) = 9999 + 1 from rfl, run_equalIn_agg w 9999 35 _ _ hS hp]
  simp only [Program.fieldsOf, Try.underlying35]
  go_simp
  by_cases h1 : a = d <;> by_cases h2 : b = e <;> simp [h1, h2]
theorem neqRun (a b d e : Int) (w : World) : (binOp .neq 35 (.agg #[.int .i64 a, .int .i64 b]) (.agg #[.int .i64 d, .int .i64 e])).run Try.prog w = .ok (.bool (!(a == d && b == e))) w := by
  rw [run_neq_struct, eqRun]
  rfl
theorem guardRun (op : BinOp) (x y : Operand) (xs ys : Array Value) (w : World) : (eqGuard op 35 x y (.agg xs) (.agg ys)).run Try.prog w = .ok () w := run_eqGuard_agg w op 35 x y xs ys guardR
set_option maxRecDepth 100000 in
set_option maxHeartbeats 4000000 in
theorem rsame_any (A B : Nat → Prop) (w : World) (ao bo : Option Addr) (na nb ca cb : Nat) (L1 Y1 L2 Y2 : Nat → Int) (h1 : P2At A w ao na L1 Y1) (h2 : P2At B w bo nb L2 Y2) (hn : na ≤ 1048576) : Calls Try.prog 13 #[.slice ao na ca, .slice bo nb cb] w fun e w' => ∃ r, e = .returned (.bool r) ∧ (r = true ↔ na = nb ∧ ∀ i, i < na → L1 i = L2 i ∧ Y1 i = Y2 i) ∧ Below w.heap.size w w' := by
  have H1 := boxed h1
  have H2 := boxed h2
  clear h1 h2
  by_cases c : na = nb
  · subst c
    go_enter Try.func13, Try.ntmps13
    go_wp2_with fail
    go_loopw [5] (fun vi wr => ∃ i : Nat, i ≤ na ∧ vi = .int .i64 (i : Nat) ∧ Box (∀ j, j < i → L1 j = L2 j ∧ Y1 j = Y2 j) ∧ Box (Below w.heap.size w wr)) (fun vi _ => na - (intOf vi).toNat)
    case atStart => exact ⟨0, Nat.zero_le _, rfl, boxed (fun j hj => by omega), boxed (Below.refl _ _)⟩
    case round =>
      obtain ⟨i, hi, rfl, HS, HB⟩ := hrel
      by_cases hlt : i < na
      · obtain ⟨b1, o1, rfl, -⟩ := H1.out.form (by omega)
        obtain ⟨b2, o2, rfl, -⟩ := H2.out.form (by omega)
        obtain ⟨p0, p1⟩ := (H1.out.below HB.out).get i hlt
        obtain ⟨q0, q1⟩ := (H2.out.below HB.out).get i hlt
        have hgd := guardRun
        have hne := fun w => neqRun (L1 i) (Y1 i) (L2 i) (Y2 i) w
        by_cases ce : L1 i = L2 i ∧ Y1 i = Y2 i
        · have te : (!(L1 i == L2 i && Y1 i == Y2 i)) = false := by simp [ce.1, ce.2]
          simp only [te] at hne
          have HS2 : Box (∀ j, j < i + 1 → L1 j = L2 j ∧ Y1 j = Y2 j) := boxed (fun j hj => by
            by_cases d : j = i
            · subst d; exact ce
            · exact HS.out j (by omega))
          clear ce te HS
          generalize L1 i = l1 at *
          generalize Y1 i = y1 at *
          generalize L2 i = l2 at *
          generalize Y2 i = y2 at *
          go_wp2_with fail
          go_quiet (fail)
          go_wp2_with fail
          go_roundw
          case rel => exact ⟨i + 1, by omega, by go_num, HS2, boxed (HB.out.trans (bel_drewN _ _ _))⟩
          case measure => simp [intOf]; omega
        · have te : (!(L1 i == L2 i && Y1 i == Y2 i)) = true := by
            by_cases c1 : L1 i = L2 i
            · have c2 : Y1 i ≠ Y2 i := fun e => ce ⟨c1, e⟩
              simp [c2]
            · simp [c1]
          simp only [te] at hne
          have HS2 : Box (¬ ∀ j, j < na → L1 j = L2 j ∧ Y1 j = Y2 j) := boxed (fun hh => ce (hh i hlt))
          clear ce te HS
          generalize L1 i = l1 at *
          generalize Y1 i = y1 at *
          generalize L2 i = l2 at *
          generalize Y2 i = y2 at *
          go_wp2_with fail
          go_quiet (fail)
          go_wp2_with fail
          go_ret
          exact ⟨false, rfl, ⟨(fun h => by cases h), (fun h => absurd h.2 HS2.out)⟩, HB.out.trans (bel_drewN _ _ _)⟩
      · obtain rfl : i = na := by omega
        go_wp2_with fail
        go_ret
        exact ⟨true, rfl, ⟨fun _ => ⟨by first | rfl | trivial, HS.out⟩, fun _ => rfl⟩, HB.out⟩
  · have t : ((na : Int) == (nb : Int)) = false := by rw [beq_eq_false_iff_ne]; omega
    have c' := boxed c
    clear c
    go_enter Try.func13, Try.ntmps13
    go_wp2
    go_ret
    exact ⟨false, rfl, by simp [c'.out], Below.refl _ _⟩
/-- Lines alike but for their runs. -/
def lnB (x y : Lne) : Bool := (x.num == y.num && x.den == y.den) && (x.h == y.h && x.y == y.y) && (x.hy == y.hy && x.bg == y.bg && x.en == y.en) && (x.tx.toList == y.tx.toList)
section
variable {w : World}
set_option maxRecDepth 100000 in
set_option maxHeartbeats 4000000 in
theorem refsame10_any (S S' : Nat → Prop) (x y : Lne) (hx : P2At S w x.ra x.rn x.L x.Y) (hy : P2At S' w y.ra y.rn y.L y.Y) (hxn : x.rn ≤ 1048576) :
    Calls Try.prog 7 #[x.val, y.val] w fun e w' => ∃ r, e = .returned (.bool r) ∧ (r = true ↔ lnB x y = true ∧ x.rn = y.rn ∧ ∀ i, i < x.rn → x.L i = y.L i ∧ x.Y i = y.Y i) ∧ Below w.heap.size w w' := by
  unfold Lne.val
  have HS := boxed (fun W (hb : Below w.heap.size w W) => rsame_any S S' W x.ra y.ra x.rn y.rn x.rc y.rc x.L x.Y y.L y.Y (hx.below hb) (hy.below hb) hxn)
  have HL := boxed (show lnB x y = ((x.num == y.num && x.den == y.den) && (x.h == y.h && x.y == y.y) && (x.hy == y.hy && x.bg == y.bg && x.en == y.en) && (x.tx.toList == y.tx.toList)) from rfl)
  generalize lnB x y = V at *
  clear hx hy hxn
  obtain ⟨D, hD⟩ : ∃ D : Prop, (x.rn = y.rn ∧ ∀ i, i < x.rn → x.L i = y.L i ∧ x.Y i = y.Y i) = D := ⟨_, rfl⟩
  rw [hD] at HS ⊢
  clear hD
  obtain ⟨x1, x2, x3, x4, x5, x6, x7, x8, x9, xa, xb, xc, xd⟩ := x
  obtain ⟨y1, y2, y3, y4, y5, y6, y7, y8, y9, ya, yb, yc, yd⟩ := y
  simp only at HS HL ⊢
  clear xc xd yc yd
  go_enter Try.func7, Try.ntmps7
  go_wp2_with fail
  all_goals first
    | (go_ret; exact ⟨_, rfl, by rw [HL.out]; simp [*], by go_grown⟩)
    | (refine (HS.out _ (by go_grown)).mono ?_; rintro e w1 ⟨r, rfl, hr, hb1⟩; have HF := boxed (And.intro hr (below_step (B := w.heap.size) (w := w) (by go_grown) (Nat.le_refl _) hb1)); clear hr hb1 HS; go_wp2_with fail; go_ret; exact ⟨r, rfl, by rw [HL.out, HF.out.1]; simp [*], HF.out.2⟩)
end
/-- 9 values in a block. -/
theorem cells9 {W : World} {rb : Nat} {v0 v1 v2 v3 v4 v5 v6 v7 v8 : Value} {t : TypeId} (e : W.heap[rb]? = some (.cells #[v0, v1, v2, v3, v4, v5, v6, v7, v8] t (0, 0))) : (W.cell? ⟨rb, 0, none⟩ = some v0 ∧ W.cell? ⟨rb, 1, none⟩ = some v1 ∧ W.cell? ⟨rb, 2, none⟩ = some v2 ∧ W.cell? ⟨rb, 3, none⟩ = some v3 ∧ W.cell? ⟨rb, 4, none⟩ = some v4 ∧ W.cell? ⟨rb, 5, none⟩ = some v5 ∧ W.cell? ⟨rb, 6, none⟩ = some v6 ∧ W.cell? ⟨rb, 7, none⟩ = some v7 ∧ W.cell? ⟨rb, 8, none⟩ = some v8) ∧ W.frozen? ⟨rb, 0, none⟩ = false ∧ W.frozen? ⟨rb, 1, none⟩ = false ∧ W.frozen? ⟨rb, 2, none⟩ = false ∧ W.frozen? ⟨rb, 3, none⟩ = false ∧ W.frozen? ⟨rb, 4, none⟩ = false ∧ W.frozen? ⟨rb, 5, none⟩ = false ∧ W.frozen? ⟨rb, 6, none⟩ = false ∧ W.frozen? ⟨rb, 7, none⟩ = false ∧ W.frozen? ⟨rb, 8, none⟩ = false := by
  refine ⟨⟨?_, ?_, ?_, ?_, ?_, ?_, ?_, ?_, ?_⟩, ?_, ?_, ?_, ?_, ?_, ?_, ?_, ?_, ?_⟩
  · simp [World.cell?, e]
  · simp [World.cell?, e]
  · simp [World.cell?, e]
  · simp [World.cell?, e]
  · simp [World.cell?, e]
  · simp [World.cell?, e]
  · simp [World.cell?, e]
  · simp [World.cell?, e]
  · simp [World.cell?, e]
  · unfold World.frozen?; rw [e]; simp
  · unfold World.frozen?; rw [e]; simp
  · unfold World.frozen?; rw [e]; simp
  · unfold World.frozen?; rw [e]; simp
  · unfold World.frozen?; rw [e]; simp
  · unfold World.frozen?; rw [e]; simp
  · unfold World.frozen?; rw [e]; simp
  · unfold World.frozen?; rw [e]; simp
  · unfold World.frozen?; rw [e]; simp
/-- The cells of runs. -/
def rvs (L Y : Nat → Int) : Nat → List Value
  | 0 => []
  | k + 1 => rvs L Y k ++ [.int .i64 (L k), .int .i64 (Y k)]
theorem rvs_len (L Y : Nat → Int) (n : Nat) : (rvs L Y n).length = n * 2 := by
  induction n with
  | zero => rfl
  | succ n ih => simp [rvs, ih]; omega
theorem rvs_get (L Y : Nat → Int) (n i : Nat) (h : i < n) : (rvs L Y n)[i * 2]? = some (.int .i64 (L i)) ∧ (rvs L Y n)[i * 2 + 1]? = some (.int .i64 (Y i)) := by
  induction n with
  | zero => omega
  | succ n ih =>
    have hl := rvs_len L Y n
    simp only [rvs]
    by_cases c : i < n
    · rw [List.getElem?_append_left (by omega), List.getElem?_append_left (by omega)]
      exact ih c
    · obtain rfl : i = n := by omega
      rw [List.getElem?_append_right (by omega), List.getElem?_append_right (by omega), hl]
      simp
theorem rvs_one (L Y : Nat → Int) (n : Nat) : ∀ u ∈ rvs L Y n, u.oneCell' = true := by
  induction n with
  | zero => intro u hu; simp [rvs] at hu
  | succ n ih =>
    intro u hu
    simp only [rvs, List.mem_append] at hu
    rcases hu with hu | hu
    · exact ih u hu
    · simp at hu; rcases hu with rfl | rfl <;> rfl
set_option maxHeartbeats 4000000 in
set_option maxRecDepth 100000 in
theorem cloneS_any (s : ByteArray) (w : World) (hlim : s.size ≤ 281474976710656) :
    Calls Try.prog 22 #[.string s] w fun e w' => e = .returned (.string s) ∧ Below w.heap.size w w' := by
  by_cases h0 : s.size = 0
  · have hs : s = ⟨#[]⟩ := by
      apply ByteArray.ext
      exact Array.eq_empty_of_size_eq_zero h0
    subst hs
    go_enter Try.func22, Try.ntmps22
    go_wp2
    go_ret
    exact ⟨rfl, Below.refl _ _⟩
  · obtain ⟨i0, hi, hz0, hz1, hz2⟩ := info_parts (show (Try.prog.info? 5).map (fun i => (i.zero, i.size, i.bytes)) = some (some (.int .u8 0), 1, 1) by kernel_rfl)
    have hinfo : (Try.prog.info? 5).map (·.size) = some 1 := by rw [hi]; simp [hz1]
    have hco : Try.prog.cellsOf 5 = 1 := by kernel_rfl
    obtain ⟨M, hM⟩ : ∃ M, M = madeCells (Value.int .u8 0).cells (((s.size : Nat) : Int).toNat * i0.size) := ⟨_, rfl⟩
    have hMs : M.size = s.size := by rw [hM, size_madeCells, hz1]; simp
    have hmk : ∀ W : World, (Instr.makeSlice 59 (.int .i64 (s.size : Int)) (.int .i64 (s.size : Int))).run Try.prog W = .ok (.slice (some ⟨W.heap.size, 0, none⟩) s.size s.size) (W.alloc (.cells M 5)) := fun W => by
      have h := run_make (P := Try.prog) W 59 5 i0 (.int .u8 0) Try.underlying59 hi hz0 .i64 .i64 (s.size : Int) (s.size : Int) (by omega) (by omega) (by rw [hz2]; omega) (by omega)
      rw [← hM] at h
      simpa using h
    clear hM
    have hcp := Lib.run_copy_row_string (P := Try.prog) (w.alloc (.cells M 5)) 59 9 3 5 w.heap.size 0 s.size s.size s M 5 Try.underlying59 hinfo (heap_alloc_new w _) (Nat.le_refl _) (by omega)
    obtain ⟨Y, hY⟩ : ∃ Y, Y = (M.toList.take 0 ++ Lib.byteCells s.data.toList ++ M.toList.drop (0 + s.size)).toArray := ⟨_, rfl⟩
    rw [← hY] at hcp
    have hYl : Y.toList = Lib.byteCells s.data.toList := by
      rw [hY, List.toList_toArray, List.take_zero, List.nil_append, List.drop_of_length_le (by rw [Array.length_toList]; omega), List.append_nil]
    have hYs : Y.size = s.size := by rw [← Array.length_toList, hYl, Lib.byteCells_length, ← Lib.size_eq]
    have hgY : ((w.alloc (.cells M 5)).setRow w.heap.size Y).heap[w.heap.size]? = some (.cells Y 5 (0, 0)) := setRow_heap _ _ M _ 5 (0, 0) (heap_alloc_new w _)
    have hne : s.data.toList ≠ [] := fun e => h0 (by rw [Lib.size_eq, e]; rfl)
    have hUS := Lib.run_unsafeString_row (P := Try.prog) ((w.alloc (.cells M 5)).setRow w.heap.size Y) 60 3 9 5 Try.underlying60 hco w.heap.size Y.size (by unfold World.shape?; rw [hgY]) s.data.toList hne (by rw [← Lib.size_eq]; omega) (by rw [← Lib.size_eq]; omega)
      (fun j x hx => Lib.cells_of_row hgY Y.size j _ (by rw [List.take_of_length_le (by rw [Array.length_toList]; exact Nat.le_refl _), hYl]; simp [Lib.byteCells, hx]))
    rw [← Lib.size_eq] at hUS
    clear hY
    go_enter Try.func22, Try.ntmps22
    go_wp2
    go_ret
    have hb1 : Below w.heap.size w (w.alloc (.cells M 5)) := (Below.refl _ w).alloc (Nat.le_refl _) _
    have hb2 : Below w.heap.size (w.alloc (.cells M 5)) ((w.alloc (.cells M 5)).setRow w.heap.size Y) := ⟨rfl, rfl, rfl, by simp, fun k hk => setRow_other _ _ _ _ (by omega)⟩
    exact ⟨rfl, Lib.below_freeze (hb1.trans hb2) (p := ⟨w.heap.size, 0, none⟩) (Nat.le_refl _) _⟩
theorem clone_any (s : ByteArray) (w : World) (h : s.size ≤ 281474976710656) : Calls Try.prog 17 #[.string s] w fun e w' => e = .returned (.string s) ∧ Below w.heap.size w w' := by
  have hc := cloneS_any s w h
  go_enter Try.func17, Try.ntmps17
  go_wp2_with fail
  refine hc.mono ?_
  rintro e w1 ⟨rfl, hb⟩
  go_wp2_with fail
  go_ret
  exact ⟨rfl, hb⟩
end Go.Proofs.Ytjchioopfljjhab
