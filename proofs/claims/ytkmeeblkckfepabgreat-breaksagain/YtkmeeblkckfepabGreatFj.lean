/-
  The cheapest line of each class as it lies in memory; what none and take do.
-/
import Derived.Test.YtkmeeblkckfepabGreatFh
import Derived.Deep.MidRow
import Derived.Deep.WholeRow
namespace Go.Proofs.YtkmeeblkckfepabGreat
open Go.RowKit
set_option linter.unusedSimpArgs false
set_option linter.unusedVariables false

structure Ln where
  e : Int
  f : Ft
  c : Int
def Ln.cells (x : Ln) : List Value := [.int .i64 x.e, .int .i64 x.f.num, .int .i64 x.f.den, .int .i64 x.f.bad, .int .i64 x.f.cls, .bool x.f.over, .int .i64 x.c]
def Ln.none : Ln := ⟨0, ⟨0, 0, 0, 0, false⟩, Awf⟩
/-- The cells of the four lines. -/
def chA (C : Nat → Ln) : Array Value := ((C 0).cells ++ (C 1).cells ++ (C 2).cells ++ (C 3).cells).toArray
theorem chA_size (C : Nat → Ln) : (chA C).size = 28 := rfl
def Ln.zero : Ln := ⟨0, ⟨0, 0, 0, 0, false⟩, 0⟩
def nA (k : Nat) : Array Value := chA (fun j => if j < k then Ln.none else Ln.zero)
theorem nA_step (k : Nat) (hk : k < 4) : (nA k).setIfInBounds (k * 7 + 6) (.int .i64 Awf) = nA (k + 1) := by
  rcases (show k = 0 ∨ k = 1 ∨ k = 2 ∨ k = 3 by omega) with rfl | rfl | rfl | rfl <;> simp [nA, chA, Ln.cells, Ln.none, Ln.zero]
theorem nA_at (k : Nat) (hk : k < 4) : (nA k)[k * 7 + 6]? = some (.int .i64 0) := by
  rcases (show k = 0 ∨ k = 1 ∨ k = 2 ∨ k = 3 by omega) with rfl | rfl | rfl | rfl <;> simp [nA, chA, Ln.cells, Ln.none, Ln.zero]
theorem nA_zero : nA 0 = #[.int .i64 0, .int .i64 0, .int .i64 0, .int .i64 0, .int .i64 0, .bool false, .int .i64 0, .int .i64 0, .int .i64 0, .int .i64 0, .int .i64 0, .int .i64 0, .bool false, .int .i64 0, .int .i64 0, .int .i64 0, .int .i64 0, .int .i64 0, .int .i64 0, .bool false, .int .i64 0, .int .i64 0, .int .i64 0, .int .i64 0, .int .i64 0, .int .i64 0, .bool false, .int .i64 0] := by simp [nA, chA, Ln.cells, Ln.none, Ln.zero]
theorem nA_four : nA 4 = chA (fun _ => Ln.none) := by simp [nA, chA]
theorem chA_one (C : Nat → Ln) : (chA C).all (·.oneCell') = true := by simp [chA, Ln.cells, Value.oneCell']
theorem choice_size (C : Nat → Ln) : (Tryz.prog.info? 76).map (·.size) = some (chA C).size := by rw [chA_size]; kernel_rfl
set_option maxRecDepth 100000 in
set_option maxHeartbeats 4000000 in
theorem none_any (w : World) : Calls Tryz.prog 45 #[] w fun e w' => e = .returned (.agg (chA (fun _ => Ln.none))) ∧ Below w.heap.size w w' := by
  obtain ⟨q0, q1, q2, q3⟩ := laid2 w (.cells #[.int .i64 0, .int .i64 0, .int .i64 0, .int .i64 0, .int .i64 0, .bool false, .int .i64 0, .int .i64 0, .int .i64 0, .int .i64 0, .int .i64 0, .int .i64 0, .bool false, .int .i64 0, .int .i64 0, .int .i64 0, .int .i64 0, .int .i64 0, .int .i64 0, .bool false, .int .i64 0, .int .i64 0, .int .i64 0, .int .i64 0, .int .i64 0, .int .i64 0, .bool false, .int .i64 0] 76) (.cells #[.int .i64 0, .int .i64 0, .int .i64 0, .int .i64 0, .int .i64 0, .bool false, .int .i64 0, .int .i64 0, .int .i64 0, .int .i64 0, .int .i64 0, .int .i64 0, .bool false, .int .i64 0, .int .i64 0, .int .i64 0, .int .i64 0, .int .i64 0, .int .i64 0, .bool false, .int .i64 0, .int .i64 0, .int .i64 0, .int .i64 0, .int .i64 0, .int .i64 0, .bool false, .int .i64 0] 76)
  obtain ⟨w0, hw0⟩ : ∃ w0, (w.alloc (.cells #[.int .i64 0, .int .i64 0, .int .i64 0, .int .i64 0, .int .i64 0, .bool false, .int .i64 0, .int .i64 0, .int .i64 0, .int .i64 0, .int .i64 0, .int .i64 0, .bool false, .int .i64 0, .int .i64 0, .int .i64 0, .int .i64 0, .int .i64 0, .int .i64 0, .bool false, .int .i64 0, .int .i64 0, .int .i64 0, .int .i64 0, .int .i64 0, .int .i64 0, .bool false, .int .i64 0] 76)).alloc (.cells #[.int .i64 0, .int .i64 0, .int .i64 0, .int .i64 0, .int .i64 0, .bool false, .int .i64 0, .int .i64 0, .int .i64 0, .int .i64 0, .int .i64 0, .int .i64 0, .bool false, .int .i64 0, .int .i64 0, .int .i64 0, .int .i64 0, .int .i64 0, .int .i64 0, .bool false, .int .i64 0, .int .i64 0, .int .i64 0, .int .i64 0, .int .i64 0, .int .i64 0, .bool false, .int .i64 0] 76) = w0 := ⟨_, rfl⟩
  rw [hw0] at q0 q1 q2 q3
  rw [← nA_zero] at q0 q1
  have Q0 : Box (w0.heap[w.heap.size]? = some (.cells (nA 0) 76 (0, 0))) := boxed q0
  have Q1 : Box (w0.heap[w.heap.size + 1]? = some (.cells (nA 0) 76 (0, 0))) := boxed q1
  have Q2 := boxed q2
  clear q0 q1 q2 q3
  have hav := Awf
  go_enter Tryz.func45, Tryz.ntmps45
  go_wp2_with fail
  go_loopw [3] (fun kv wr => ∃ k : Nat, k ≤ 4 ∧ kv = .int .i64 (k : Int) ∧ Box (wr.heap[w.heap.size]? = some (.cells (nA 0) 76 (0, 0))) ∧ Box (wr.heap[w.heap.size + 1]? = some (.cells (nA k) 76 (0, 0))) ∧ Box (Below w.heap.size w wr)) (fun kv _ => 4 - (intOf kv).toNat)
  case atStart => exact ⟨0, by omega, rfl, Q0, Q1, Q2⟩
  case round =>
    obtain ⟨k, hk, rfl, H0, H1, HB⟩ := hrel
    by_cases hlt : k < 4
    · have t1 : (k : Int) < 4 := by omega
      have c := row_cell H1.out (k * 7 + 6) _ (nA_at k hlt)
      have fr := row_free H1.out (k * 7 + 6)
      have e1 : Box ((wr.setCell ⟨w.heap.size + 1, k * 7 + 6, none⟩ (.int .i64 1125899906842624)).heap[w.heap.size + 1]? = some (.cells (nA (k + 1)) 76 (0, 0))) := boxed (by rw [← nA_step k hlt]; exact arr_set _ H1.out)
      have e0 : Box ((wr.setCell ⟨w.heap.size + 1, k * 7 + 6, none⟩ (.int .i64 1125899906842624)).heap[w.heap.size]? = some (.cells (nA 0) 76 (0, 0))) := boxed ((Below.heap_setCell wr ⟨w.heap.size + 1, k * 7 + 6, none⟩ _ _ (by simp)).trans H0.out)
      have e2 : Box (Below w.heap.size w (wr.setCell ⟨w.heap.size + 1, k * 7 + 6, none⟩ (.int .i64 1125899906842624))) := boxed (HB.out.setCell (by simp) _)
      clear H0 H1 HB
      go_wp2
      go_roundw
      case rel => exact ⟨k + 1, by omega, by go_num, e0, e1, e2⟩
      case measure => simp [intOf]; omega
    · obtain rfl : k = 4 := by omega
      have HR : Box (wr.rangeAt (w.heap.size + 1) 0 (chA (fun _ => Ln.none)).toList) := boxed (fun j v hv => by rw [Nat.zero_add]; exact row_cell H1.out j v (by rw [nA_four]; simpa using hv))
      have HT : Box (wr.there w.heap.size 0 (chA (fun _ => Ln.none)).size) := boxed (fun j hj => by
        rw [Nat.zero_add]
        have hj2 : j < (nA 0).size := hj
        exact ⟨by rw [row_cell H0.out j (nA 0)[j] (by simp [hj2])]; rfl, row_free H0.out j⟩)
      have HP : Box ((wr.setCells w.heap.size 0 (chA (fun _ => Ln.none)).toList).heap[w.heap.size]? = some (.cells (chA (fun _ => Ln.none)) 76 (0, 0))) := boxed (by
        rw [sets_heap w.heap.size 76 _ 0 wr _ H0.out]
        simp [setA, nA, chA, Ln.cells, Ln.none, Ln.zero])
      have HF : Box (Below w.heap.size w (wr.setCells w.heap.size 0 (chA (fun _ => Ln.none)).toList)) := boxed (HB.out.trans (sets_below _ _ (Nat.le_refl _) _ _ _))
      have h1 := chA_one (fun _ => Ln.none)
      have hsz := choice_size (fun _ => Ln.none)
      obtain ⟨A, hA⟩ : ∃ A, chA (fun _ => Ln.none) = A := ⟨_, rfl⟩
      rw [hA] at HR HT HP HF h1 hsz
      have HA := boxed hA
      clear hA
      go_wp2_with (first | (refine wpList_load_mid rfl 76 _ rfl (w.heap.size + 1) 0 rfl A.toList _ HR.out Tryz.underlying76 rfl (by simpa using hsz) ?_) | (refine wpList_store_mid rfl 76 _ _ rfl w.heap.size 0 A rfl rfl HT.out hsz h1 ?_))
      refine bodyPost_ret (v := .agg A) ?_ ?_ ?_
      · exact results_cell_row Tryz.results45 _ _ w.heap.size 76 A (0, 0) _ rfl HP.out Tryz.underlying76 rfl hsz
      · rfl
      · exact ⟨by rw [HA.out], HF.out⟩
theorem heap_drew (w : World) : w.drew.heap = w.heap := rfl
/-- A line taken, if it is cheaper. -/
def tkC (C : Nat → Ln) (x : Ln) (k : Nat) : Nat → Ln := if x.c < (C k).c then (fun j => if j = k then x else C j) else C
theorem chA_set (C : Nat → Ln) (x : Ln) (k : Nat) (hk : k < 4) : setA (chA C) (k * 7) x.cells = chA (fun j => if j = k then x else C j) := by
  rcases (show k = 0 ∨ k = 1 ∨ k = 2 ∨ k = 3 by omega) with rfl | rfl | rfl | rfl <;> simp [setA, chA, Ln.cells]
theorem chA_at (C : Nat → Ln) (k j : Nat) (hk : k < 4) (hj : j < 7) : (chA C)[k * 7 + j]? = some ((C k).cells[j]'hj) := by
  rcases (show k = 0 ∨ k = 1 ∨ k = 2 ∨ k = 3 by omega) with rfl | rfl | rfl | rfl <;> rcases (show j = 0 ∨ j = 1 ∨ j = 2 ∨ j = 3 ∨ j = 4 ∨ j = 5 ∨ j = 6 by omega) with rfl | rfl | rfl | rfl | rfl | rfl | rfl <;> rfl
theorem chA_c (C : Nat → Ln) (k : Nat) (hk : k < 4) : (chA C)[k * 7 + 6]? = some (.int .i64 (C k).c) := by
  rcases (show k = 0 ∨ k = 1 ∨ k = 2 ∨ k = 3 by omega) with rfl | rfl | rfl | rfl <;> rfl
section
variable {w : World} {cb : Nat} {C : Nat → Ln} {x : Ln} {k : Nat}
set_option maxRecDepth 100000 in
set_option maxHeartbeats 4000000 in
theorem take_any (he : w.heap[cb]? = some (.cells (chA C) 76 (0, 0))) (hk : k < 4) (hx : x.f.cls = (k : Int)) :
    Calls Tryz.prog 57 #[.pointer (some ⟨cb, 0, none⟩), .agg x.cells.toArray] w fun e w' => e = .returned (.tuple #[]) ∧ w'.heap[cb]? = some (.cells (chA (tkC C x k)) 76 (0, 0)) ∧ Oth (fun b => b = cb) w w' := by
  have hcb := heap_lt he
  have hne : cb ≠ w.heap.size := by omega
  obtain ⟨wX, hwX⟩ : ∃ wX, w.alloc (.cells x.cells.toArray 74) = wX := ⟨_, rfl⟩
  have hbX : Below w.heap.size w wX := by rw [← hwX]; exact (Below.refl _ _).alloc (Nat.le_refl _) _
  have heX : wX.heap[w.heap.size]? = some (.cells x.cells.toArray 74 (0, 0)) := by rw [← hwX]; exact heap_alloc_new w _
  have heS : wX.heap[cb]? = some (.cells (chA C) 76 (0, 0)) := (hbX.block cb hcb).trans he
  have c6 := row_cell heS (k * 7 + 6) _ (chA_c C k hk)
  have HO := boxed (Oth.of (X := fun b => b = cb) hbX)
  have HE := boxed heS
  have hk2 : (k : Int) < 4 := by omega
  have HG : Box (∀ W : World, Below wX.heap.size wX W → W.heap[cb]? = some (.cells (chA C) 76 (0, 0)) ∧ W.heap[w.heap.size]? = some (.cells x.cells.toArray 74 (0, 0)) ∧ Oth (fun b => b = cb) w W) := boxed (fun W hb => ⟨(hb.block _ (by have := hbX.size; omega)).trans heS, (hb.block _ (heap_lt heX)).trans heX, HO.out.trans (Oth.of hb)⟩)
  have HS : Box (∀ W : World, W.heap[cb]? = some (.cells (chA C) 76 (0, 0)) → Oth (fun b => b = cb) w W → (W.setCells cb (k * 7) x.cells).heap[cb]? = some (.cells (chA (fun j => if j = k then x else C j)) 76 (0, 0)) ∧ Oth (fun b => b = cb) w (W.setCells cb (k * 7) x.cells)) := boxed (by
    intro W heS hO
    have h1 := sets_heap cb 76 x.cells (k * 7) W _ heS
    rw [chA_set C x k hk] at h1
    have h2 := sets_below cb 0 (by omega) x.cells (k * 7) W
    exact ⟨h1, hO.trans ⟨h2.os, h2.tape, h2.output, h2.size, fun b _ hb => sets_other cb b hb _ _ _⟩⟩)
  have HT : Box (∀ W : World, W.heap[cb]? = some (.cells (chA C) 76 (0, 0)) → (Instr.storeAt 74 (.pointer (some ⟨cb, k * 7, none⟩)) (.agg x.cells.toArray)).run Tryz.prog W = .ok () (W.setCells cb (k * 7) x.cells)) := boxed (by
    intro W heS
    have := run_storeAt_mid (P := Tryz.prog) W cb (k * 7) 74 x.cells.toArray (fun j hj => ?_) (by kernel_rfl) (by simp [Ln.cells, Value.oneCell'])
    · exact this
    · have hj2 : j < 7 := hj
      refine ⟨?_, row_free heS _⟩
      have hj3 : k * 7 + j < (chA C).size := by rw [chA_size]; omega
      rw [row_cell heS (k * 7 + j) (chA C)[k * 7 + j] (by simp [hj3])]
      rfl)
  clear he heS hbX
  obtain ⟨⟨x0, x1, x2, x3, x4, x5, x6⟩, -⟩ := cells7 heX
  clear heX
  unfold Ln.cells at *
  rw [hx] at *
  simp only [List.cons_append] at *
  by_cases hc : x.c < (C k).c
  · have e1 : tkC C x k = fun j => if j = k then x else C j := by unfold tkC; rw [if_pos hc]
    rw [e1]
    have d1 : decide (x.c < (C k).c) = true := decide_eq_true hc
    generalize (C k).c = y at *
    go_enter Tryz.func57, Tryz.ntmps57
    go_wp2_with fail
    go_quiet (fail)
    go_wp2_with fail
    obtain ⟨W, hW⟩ : ∃ W, wX.drewN nq = W := ⟨_, rfl⟩
    rw [hW]
    have hBW : Below wX.heap.size wX W := by rw [← hW]; exact bel_drewN _ _ _
    clear hW x0 x1 x2 x3 x4 x5 x6 c6
    obtain ⟨g1, g2, g3⟩ := HG.out _ hBW
    obtain ⟨⟨x0, x1, x2, x3, x4, x5, x6⟩, -⟩ := cells7 g2
    have z := fun j hj => chA_at C k j hk hj
    have u0 := row_cell g1 (k * 7 + 0) _ (z 0 (by omega))
    have f0 := row_free g1 (k * 7 + 0)
    have u1 := row_cell g1 (k * 7 + 1) _ (z 1 (by omega))
    have f1 := row_free g1 (k * 7 + 1)
    have u2 := row_cell g1 (k * 7 + 2) _ (z 2 (by omega))
    have f2 := row_free g1 (k * 7 + 2)
    have u3 := row_cell g1 (k * 7 + 3) _ (z 3 (by omega))
    have f3 := row_free g1 (k * 7 + 3)
    have u4 := row_cell g1 (k * 7 + 4) _ (z 4 (by omega))
    have f4 := row_free g1 (k * 7 + 4)
    have u5 := row_cell g1 (k * 7 + 5) _ (z 5 (by omega))
    have f5 := row_free g1 (k * 7 + 5)
    have u6 := row_cell g1 (k * 7 + 6) _ (z 6 (by omega))
    have f6 := row_free g1 (k * 7 + 6)
    simp [Ln.cells] at u0 u1 u2 u3 u4 u5 u6 f0
    clear z
    obtain ⟨p1, p2⟩ := HS.out W g1 g3
    obtain ⟨p1', p2'⟩ := HS.out W.drew g1 g3.drew
    simp only [World.setCells, Nat.add_assoc, Nat.reduceAdd] at p1 p2 p1' p2'
    have P1 := boxed p1
    have P2 := boxed p2
    have P1' := boxed p1'
    have P2' := boxed p2'
    clear p1 p2 p1' p2' g1 g2 g3 HT HS HG
    go_region
    refine bodyPost_end (results_none rfl _ _ _) rfl ?_
    refine ⟨rfl, ?_, P2.out.drew⟩
    rw [heap_drew]
    exact P1.out
  · have e1 : tkC C x k = C := by unfold tkC; rw [if_neg hc]
    rw [e1]
    have d1 : decide (x.c < (C k).c) = false := decide_eq_false hc
    generalize (C k).c = y at *
    go_enter Tryz.func57, Tryz.ntmps57
    go_wp2_with fail
    go_quiet (fail)
    go_wp2_with fail
    refine bodyPost_end (results_none rfl _ _ _) rfl ?_
    obtain ⟨g1, g2, g3⟩ := HG.out _ (bel_drewN _ _ _)
    exact ⟨rfl, g1, g3⟩
end
end Go.Proofs.YtkmeeblkckfepabGreat
