/-
  What the window's methods leave and add do.
-/
import Derived.Test.YtkmeeblkckfepabGreatFg
import Derived.ArgAppend
import Derived.Deep.RegionLaw
namespace Go.Proofs.YtkmeeblkckfepabGreat
open Go.RowKit
set_option linter.unusedSimpArgs false
set_option linter.unusedVariables false

/-- All is as it was, but for the blocks that X names, and new ones. -/
structure Oth (X : Nat → Prop) (w w' : World) : Prop where
  os : w'.os = w.os
  tape : w'.tape = w.tape
  output : w'.output = w.output
  size : w.heap.size ≤ w'.heap.size
  block : ∀ k, k < w.heap.size → ¬ X k → w'.heap[k]? = w.heap[k]?
theorem Oth.refl (X : Nat → Prop) (w : World) : Oth X w w := ⟨rfl, rfl, rfl, Nat.le_refl _, fun _ _ _ => rfl⟩
theorem Oth.trans {X : Nat → Prop} {a b c : World} (h : Oth X a b) (k : Oth X b c) : Oth X a c := ⟨k.os.trans h.os, k.tape.trans h.tape, k.output.trans h.output, Nat.le_trans h.size k.size, fun i hi hx => (k.block i (Nat.lt_of_lt_of_le hi h.size) hx).trans (h.block i hi hx)⟩
theorem Oth.of {w w' : World} {X : Nat → Prop} (h : Below w.heap.size w w') : Oth X w w' := ⟨h.os, h.tape, h.output, h.size, fun k hk _ => h.block k hk⟩
theorem Oth.mono {X Y : Nat → Prop} {w w' : World} (h : Oth X w w') (hXY : ∀ k, k < w.heap.size → X k → Y k) : Oth Y w w' := ⟨h.os, h.tape, h.output, h.size, fun k hk hy => h.block k hk (fun hx => hy (hXY k hk hx))⟩
theorem Oth.below {X : Nat → Prop} {w w' : World} {B : Nat} (h : Oth X w w') (hB : ∀ k, X k → B ≤ k) (hw : B ≤ w.heap.size) : Below B w w' := ⟨h.os, h.tape, h.output, h.size, fun k hk => h.block k (by omega) (fun hx => by have := hB k hx; omega)⟩
theorem Oth.set {X : Nat → Prop} {w w' : World} (h : Oth X w w') {b o : Nat} (u : Value) (hb : X b) : Oth X w (w'.setCell ⟨b, o, none⟩ u) :=
  ⟨h.os, h.tape, h.output, by simpa using h.size, fun k hk hx => (Below.heap_setCell w' ⟨b, o, none⟩ u k (fun e => hx (by simp at e; rw [e]; exact hb))).trans (h.block k hk hx)⟩
theorem Oth.drew {X : Nat → Prop} {w w' : World} (h : Oth X w w') : Oth X w w'.drew := ⟨h.os, h.tape, h.output, h.size, h.block⟩
theorem Oth.grown {X : Nat → Prop} {w w' w2 : World} {row : Option Nat} (h : Oth X w w') (hg : w'.grownBy w2 row) (hr : ∀ k, row = some k → X k) : Oth X w w2 :=
  ⟨hg.os.trans h.os, hg.tape.trans h.tape, hg.output.trans h.output, Nat.le_trans h.size hg.size, fun k hk hx => (hg.block k (Nat.lt_of_lt_of_le hk h.size) (fun e => hx (hr k e.symm))).trans (h.block k hk hx)⟩
/-- How long the slice in a cell is. -/
def rdN (sb off : Nat) (W : World) : Nat := match W.cell? ⟨sb, off, none⟩ with | some (.slice _ n _) => n | _ => 0
theorem rdN_eq {sb off n cap : Nat} {W : World} {ao : Option Addr} (h : W.cell? ⟨sb, off, none⟩ = some (.slice ao n cap)) : rdN sb off W = n := by unfold rdN; rw [h]
section
variable {w : World} {B sb off : Nat} {v : Value} {L : List (Nat × Int)} {arr : Array Value} {t : TypeId}
theorem heap_lt {w : World} {b : Nat} {o : Obj} (h : w.heap[b]? = some o) : b < w.heap.size := by
  by_cases c : b < w.heap.size
  · exact c
  · rw [Array.getElem?_eq_none (by omega)] at h; cases h
set_option maxRecDepth 100000 in
set_option maxHeartbeats 4000000 in
theorem leave_any (he : w.heap[sb]? = some (.cells arr t (0, 0))) (hv : arr[off]? = some v) (h : WinAt B w v L) (hl : L.length ≤ 262144) (hs : wblk v ≠ some sb) (en : Int) :
    Calls Tryz.prog 56 #[.pointer (some ⟨sb, off, none⟩), .int .i64 en] w fun e w' => e = .returned (.tuple #[]) ∧ ∃ v', w'.heap[sb]? = some (.cells (arr.setIfInBounds off v') t (0, 0)) ∧ WinAt B w' v' (L.dropWhile (fun x => decide (en ≤ (x.1 : Int)))) ∧ wblk v' = wblk v ∧ Oth (fun k => k = sb) w w' := by
  have hoff : off < arr.size := (Array.getElem?_eq_some_iff.1 hv).1
  have e0 : arr.setIfInBounds off v = arr := by
    apply Array.ext_getElem?
    intro i
    rw [Array.getElem?_setIfInBounds]
    split
    · rename_i e; subst e; first | exact hv.symm | (rw [if_pos hoff]; exact hv.symm)
    · rfl
  have HR : Box (∃ L1 v1, L.dropWhile (fun x => decide (en ≤ (x.1 : Int))) = L1.dropWhile (fun x => decide (en ≤ (x.1 : Int))) ∧ w.heap[sb]? = some (.cells (arr.setIfInBounds off v1) t (0, 0)) ∧ WinAt B w v1 L1 ∧ wblk v1 = wblk v ∧ L1.length ≤ 262144 ∧ Oth (fun k => k = sb) w w) := boxed ⟨L, v, rfl, by rw [e0]; exact he, h, rfl, hl, Oth.refl _ _⟩
  clear he hv h hl e0
  go_enter Tryz.func56, Tryz.ntmps56
  go_wp2_with fail
  go_loopw [] (fun wr => Box (∃ L1 v1, L.dropWhile (fun x => decide (en ≤ (x.1 : Int))) = L1.dropWhile (fun x => decide (en ≤ (x.1 : Int))) ∧ wr.heap[sb]? = some (.cells (arr.setIfInBounds off v1) t (0, 0)) ∧ WinAt B wr v1 L1 ∧ wblk v1 = wblk v ∧ L1.length ≤ 262144 ∧ Oth (fun k => k = sb) w wr)) (fun wr => rdN sb off wr)
  case atStart => exact HR
  case round =>
    obtain ⟨L1, v1, hdw, he, h, hwb, hl, hO⟩ := hrel.out
    clear hrel HR
    have c := row_cell he off v1 (by rw [Array.getElem?_setIfInBounds]; simp [hoff])
    have fr := row_free he off
    have hsb := heap_lt he
    cases L1 with
    | nil =>
      obtain ⟨ao, cap, rfl, -, -, -⟩ := win_len h
      simp only [List.length_nil] at c
      have HE := boxed (⟨_, he, by rw [hdw]; exact h, hwb, hO⟩ : ∃ v', wr.heap[sb]? = some (Obj.cells (arr.setIfInBounds off v') t) ∧ WinAt B wr v' (L.dropWhile (fun x => decide (en ≤ (x.1 : Int)))) ∧ wblk v' = wblk v ∧ Oth (fun k => k = sb) w wr)
      clear hdw he h hwb hO
      go_wp2
      refine bodyPost_end (results_none rfl _ _ _) rfl ?_
      exact ⟨rfl, HE.out⟩
    | cons x L2 =>
      obtain ⟨g, o, cap, rfl, hBg, hg, hc, hcm, c0, -⟩ := win_at h 0 (by simp)
      simp only [List.length_cons, Nat.zero_mul, Nat.add_zero, List.getElem_cons_zero] at c c0 hc hl
      obtain ⟨o', hsl, ho'⟩ := slice_one g o (L2.length + 1) cap (by omega) hc
      have hgs : g ≠ sb := fun e => hs (by rw [← hwb, e]; rfl)
      have hlt1 : (0 : Int) < ((L2.length + 1 : Nat) : Int) := by omega
      obtain ⟨m, hm⟩ : ∃ m, L2.length + 1 = m := ⟨_, rfl⟩
      have HM := boxed hm
      have m0 : 0 < m := by omega
      have m1 : (0 : Int) < (m : Int) := by omega
      have m3 : m ≤ 262144 := by omega
      have HC := boxed c
      rw [hm] at c hsl hc
      have hsl2 := hsl
      by_cases hx : en ≤ (x.1 : Int)
      · have HT := win_tail (by simpa using h) ho'
        have d1 : decide (en ≤ (x.1 : Int)) = true := decide_eq_true hx
        have HR2 : Box (∃ L1 v1, L.dropWhile (fun x => decide (en ≤ (x.1 : Int))) = L1.dropWhile (fun x => decide (en ≤ (x.1 : Int))) ∧ (wr.setCell ⟨sb, off, none⟩ (.slice (some ⟨g, o', none⟩) (m - 1) (cap - 1))).heap[sb]? = some (.cells (arr.setIfInBounds off v1) t (0, 0)) ∧ WinAt B (wr.setCell ⟨sb, off, none⟩ (.slice (some ⟨g, o', none⟩) (m - 1) (cap - 1))) v1 L1 ∧ wblk v1 = wblk v ∧ L1.length ≤ 262144 ∧ Oth (fun k => k = sb) w (wr.setCell ⟨sb, off, none⟩ (.slice (some ⟨g, o', none⟩) (m - 1) (cap - 1)))) := boxed (by
          refine ⟨L2, .slice (some ⟨g, o', none⟩) L2.length (cap - 1), ?_, ?_, ?_, ?_, by omega, hO.set _ rfl⟩
          · rw [hdw, List.dropWhile_cons, if_pos d1]
          · have := arr_set (W := wr) (k := off) (.slice (some ⟨g, o', none⟩) (m - 1) (cap - 1)) he
            rw [this, show m - 1 = L2.length by omega]
            congr 2
            simp
          · refine HT.keep (fun g1 e1 hg1 => ?_)
            have : g1 = g := by simpa [wblk] using e1.symm
            subst this
            exact Below.heap_setCell wr ⟨sb, off, none⟩ _ g1 (by simpa using hgs)
          · rw [← hwb]; rfl)
        have HN : Box (rdN sb off (wr.setCell ⟨sb, off, none⟩ (.slice (some ⟨g, o', none⟩) (m - 1) (cap - 1))) < rdN sb off wr) := boxed (by
          rw [rdN_eq (World.cell?_setCell_same wr _ _ c), rdN_eq c]; omega)
        clear HT he h hO hdw ho' hm
        go_wp2
        go_roundw
        case rel => exact HR2
        case measure => exact HN.out
      · have d1 : decide (en ≤ (x.1 : Int)) = false := decide_eq_false hx
        have HE := boxed (⟨_, he, by rw [hdw, List.dropWhile_cons, d1]; exact h, hwb, hO⟩ : ∃ v', wr.heap[sb]? = some (Obj.cells (arr.setIfInBounds off v') t) ∧ WinAt B wr v' (L.dropWhile (fun x => decide (en ≤ (x.1 : Int)))) ∧ wblk v' = wblk v ∧ Oth (fun k => k = sb) w wr)
        clear he h hO hdw ho' hm
        go_wp2
        refine bodyPost_end (results_none rfl _ _ _) rfl ?_
        exact ⟨rfl, HE.out⟩
end
end Go.Proofs.YtkmeeblkckfepabGreat
