/-
  The cheapest line of each class as it lies in memory; what none and take do.
-/
import Derived.Deep.MidRow
import Derived.Deep.WholeRow
import Derived.Deep.RegionWith
import Derived.ScopeJumps
import Derived.Test.YtcjcdpfjnomehaaGreatPw32
namespace Go.Proofs.YtcjcdpfjnomehaaGreat
open Go.RowKit
set_option linter.unusedSimpArgs false
set_option linter.unusedVariables false
structure Ln where
  e : Int
  f : Ft
  c : Int
def Ln.cells (x : Ln) : List Value := [.int .i64 x.e, .int .i64 x.f.num, .int .i64 x.f.den, .int .i64 x.f.bad, .int .i64 x.f.cls, .bool x.f.over, .int .i64 x.c]
def Ln.none : Ln := ⟨0, ⟨0, 0, 0, 0, false⟩, Awf⟩
def chA (C : Nat → Ln) : Array Value := ((C 0).cells ++ (C 1).cells ++ (C 2).cells ++ (C 3).cells).toArray
theorem chA_size (C : Nat → Ln) : (chA C).size = 28 := rfl
def Ln.zero : Ln := ⟨0, ⟨0, 0, 0, 0, false⟩, 0⟩
def nA (k : Nat) : Array Value := chA (fun j => if j < k then Ln.none else Ln.zero)
theorem nA_step (k : Nat) (hk : k < 4) : (nA k).setIfInBounds (k * 7 + 6) (.int .i64 Awf) = nA (k + 1) := by
  rcases (show k = 0 ∨ k = 1 ∨ k = 2 ∨ k = 3 by omega) with rfl | rfl | rfl | rfl <;> simp [nA, chA, Ln.cells, Ln.none, Ln.zero]
theorem nA_at (k : Nat) (hk : k < 4) : (nA k)[k * 7 + 6]? = some (.int .i64 0) := by
  rcases (show k = 0 ∨ k = 1 ∨ k = 2 ∨ k = 3 by omega) with rfl | rfl | rfl | rfl <;> simp [nA, chA, Ln.cells, Ln.none, Ln.zero]
theorem nA_zero : nA 0 = #[.int .i64 0, .int .i64 0, .int .i64 0, .int .i64 0, .int .i64 0, .bool false, .int .i64 0, .int .i64 0, .int .i64 0, .int .i64 0, .int .i64 0, .int .i64 0, .bool false, .int .i64 0, .int .i64 0, .int .i64 0, .int .i64 0, .int .i64 0, .int .i64 0, .bool false, .int .i64 0, .int .i64 0, .int .i64 0, .int .i64 0, .int .i64 0, .int .i64 0, .bool false, .int .i64 0] := by simp [nA, chA, Ln.cells, Ln.none, Ln.zero]
theorem nA_four : nA 4 = chA (fun _ => Ln.none) := by simp [nA, chA]
theorem chA_one (C : Nat → Ln) : (chA C).all (·.oneCell') = true := by simp [chA, Ln.cells, Value.oneCell']
theorem choice_size (C : Nat → Ln) : (Tryz.prog.info? 206).map (·.size) = some (chA C).size := by rw [chA_size]; kernel_rfl
set_option maxRecDepth 100000 in
set_option maxHeartbeats 4000000 in
theorem none_any (w : World) : Calls Tryz.prog 172 #[] w fun e w' => e = .returned (.agg (chA (fun _ => Ln.none))) ∧ Below w.heap.size w w' := by
  obtain ⟨q0, q1, q2, q3⟩ := laid2 w (.cells #[.int .i64 0, .int .i64 0, .int .i64 0, .int .i64 0, .int .i64 0, .bool false, .int .i64 0, .int .i64 0, .int .i64 0, .int .i64 0, .int .i64 0, .int .i64 0, .bool false, .int .i64 0, .int .i64 0, .int .i64 0, .int .i64 0, .int .i64 0, .int .i64 0, .bool false, .int .i64 0, .int .i64 0, .int .i64 0, .int .i64 0, .int .i64 0, .int .i64 0, .bool false, .int .i64 0] 206) (.cells #[.int .i64 0, .int .i64 0, .int .i64 0, .int .i64 0, .int .i64 0, .bool false, .int .i64 0, .int .i64 0, .int .i64 0, .int .i64 0, .int .i64 0, .int .i64 0, .bool false, .int .i64 0, .int .i64 0, .int .i64 0, .int .i64 0, .int .i64 0, .int .i64 0, .bool false, .int .i64 0, .int .i64 0, .int .i64 0, .int .i64 0, .int .i64 0, .int .i64 0, .bool false, .int .i64 0] 206)
  obtain ⟨w0, hw0⟩ : ∃ w0, (w.alloc (.cells #[.int .i64 0, .int .i64 0, .int .i64 0, .int .i64 0, .int .i64 0, .bool false, .int .i64 0, .int .i64 0, .int .i64 0, .int .i64 0, .int .i64 0, .int .i64 0, .bool false, .int .i64 0, .int .i64 0, .int .i64 0, .int .i64 0, .int .i64 0, .int .i64 0, .bool false, .int .i64 0, .int .i64 0, .int .i64 0, .int .i64 0, .int .i64 0, .int .i64 0, .bool false, .int .i64 0] 206)).alloc (.cells #[.int .i64 0, .int .i64 0, .int .i64 0, .int .i64 0, .int .i64 0, .bool false, .int .i64 0, .int .i64 0, .int .i64 0, .int .i64 0, .int .i64 0, .int .i64 0, .bool false, .int .i64 0, .int .i64 0, .int .i64 0, .int .i64 0, .int .i64 0, .int .i64 0, .bool false, .int .i64 0, .int .i64 0, .int .i64 0, .int .i64 0, .int .i64 0, .int .i64 0, .bool false, .int .i64 0] 206) = w0 := ⟨_, rfl⟩
  rw [hw0] at q0 q1 q2 q3
  rw [← nA_zero] at q0 q1
  have Q0 : Box (w0.heap[w.heap.size]? = some (.cells (nA 0) 206 (0, 0))) := boxed q0
  have Q1 : Box (w0.heap[w.heap.size + 1]? = some (.cells (nA 0) 206 (0, 0))) := boxed q1
  have Q2 := boxed q2
  clear q0 q1 q2 q3
  have hav := Awf
  go_enter Tryz.func172, Tryz.ntmps172
  go_wp2_with fail
  go_loopw [3] (fun kv wr => ∃ k : Nat, k ≤ 4 ∧ kv = .int .i64 (k : Int) ∧ Box (wr.heap[w.heap.size]? = some (.cells (nA 0) 206 (0, 0))) ∧ Box (wr.heap[w.heap.size + 1]? = some (.cells (nA k) 206 (0, 0))) ∧ Box (Below w.heap.size w wr)) (fun kv _ => 4 - (intOf kv).toNat)
  case atStart => exact ⟨0, by omega, rfl, Q0, Q1, Q2⟩
  case round =>
    obtain ⟨k, hk, rfl, H0, H1, HB⟩ := hrel
    by_cases hlt : k < 4
    · have t1 : (k : Int) < 4 := by omega
      have c := row_cell H1.out (k * 7 + 6) _ (nA_at k hlt)
      have fr := row_free H1.out (k * 7 + 6)
      have e1 : Box ((wr.setCell ⟨w.heap.size + 1, k * 7 + 6, none⟩ (.int .i64 1125899906842624)).heap[w.heap.size + 1]? = some (.cells (nA (k + 1)) 206 (0, 0))) := boxed (by rw [← nA_step k hlt]; exact arr_set _ H1.out)
      have e0 : Box ((wr.setCell ⟨w.heap.size + 1, k * 7 + 6, none⟩ (.int .i64 1125899906842624)).heap[w.heap.size]? = some (.cells (nA 0) 206 (0, 0))) := boxed ((Below.heap_setCell wr ⟨w.heap.size + 1, k * 7 + 6, none⟩ _ _ (by simp)).trans H0.out)
      have e2 : Box (Below w.heap.size w (wr.setCell ⟨w.heap.size + 1, k * 7 + 6, none⟩ (.int .i64 1125899906842624))) := boxed (HB.out.setCell (by simp) _)
      clear H0 H1 HB
      go_wp2
      go_roundw
      case rel => exact ⟨k + 1, by omega, by go_num, e0, e1, e2⟩
      case measure => simp [intOf]; omega
    · obtain rfl : k = 4 := by omega
      have HR : Box (wr.rangeAt (w.heap.size + 1) 0 (chA (fun _ => Ln.none)).toList) := boxed (fun j v hv => by rw [Nat.zero_add]; exact row_cell H1.out j v (by rw [nA_four]; simpa using hv))
      have HT : Box (wr.there w.heap.size 0 (chA (fun _ => Ln.none)).size) := boxed (fun j hj => by
        rw [Nat.zero_add]
        have hj2 : j < (nA 0).size := hj
        exact ⟨by rw [row_cell H0.out j (nA 0)[j] (by simp [hj2])]; rfl, row_free H0.out j⟩)
      have HP : Box ((wr.setCells w.heap.size 0 (chA (fun _ => Ln.none)).toList).heap[w.heap.size]? = some (.cells (chA (fun _ => Ln.none)) 206 (0, 0))) := boxed (by
        rw [sets_heap w.heap.size 206 _ 0 wr _ H0.out]
        simp [setA, nA, chA, Ln.cells, Ln.none, Ln.zero])
      have HF : Box (Below w.heap.size w (wr.setCells w.heap.size 0 (chA (fun _ => Ln.none)).toList)) := boxed (HB.out.trans (sets_below _ _ (Nat.le_refl _) _ _ _))
      have h1 := chA_one (fun _ => Ln.none)
      have hsz := choice_size (fun _ => Ln.none)
      obtain ⟨A, hA⟩ : ∃ A, chA (fun _ => Ln.none) = A := ⟨_, rfl⟩
      rw [hA] at HR HT HP HF h1 hsz
      have HA := boxed hA
      clear hA
      go_wp2_with (first | (refine wpList_load_mid rfl 206 _ rfl (w.heap.size + 1) 0 rfl A.toList _ HR.out Tryz.underlying206 rfl (by simpa using hsz) ?_) | (refine wpList_store_mid rfl 206 _ _ rfl w.heap.size 0 A rfl rfl HT.out hsz h1 ?_))
      refine bodyPost_ret (v := .agg A) ?_ ?_ ?_
      · exact results_cell_row Tryz.results172 _ _ w.heap.size 206 A (0, 0) _ rfl HP.out Tryz.underlying206 rfl hsz
      · rfl
      · exact ⟨by rw [HA.out], HF.out⟩
theorem heap_drew (w : World) : w.drew.heap = w.heap := rfl
def tkC (C : Nat → Ln) (x : Ln) (k : Nat) : Nat → Ln := if x.c < (C k).c then (fun j => if j = k then x else C j) else C
theorem chA_set (C : Nat → Ln) (x : Ln) (k : Nat) (hk : k < 4) : setA (chA C) (k * 7) x.cells = chA (fun j => if j = k then x else C j) := by
  rcases (show k = 0 ∨ k = 1 ∨ k = 2 ∨ k = 3 by omega) with rfl | rfl | rfl | rfl <;> simp [setA, chA, Ln.cells]
theorem chA_at (C : Nat → Ln) (k j : Nat) (hk : k < 4) (hj : j < 7) : (chA C)[k * 7 + j]? = some ((C k).cells[j]'hj) := by
  rcases (show k = 0 ∨ k = 1 ∨ k = 2 ∨ k = 3 by omega) with rfl | rfl | rfl | rfl <;> rcases (show j = 0 ∨ j = 1 ∨ j = 2 ∨ j = 3 ∨ j = 4 ∨ j = 5 ∨ j = 6 by omega) with rfl | rfl | rfl | rfl | rfl | rfl | rfl <;> rfl
theorem chA_c (C : Nat → Ln) (k : Nat) (hk : k < 4) : (chA C)[k * 7 + 6]? = some (.int .i64 (C k).c) := by
  rcases (show k = 0 ∨ k = 1 ∨ k = 2 ∨ k = 3 by omega) with rfl | rfl | rfl | rfl <;> rfl
section
variable {w : World} {cb : Nat} {C : Nat → Ln} {x : Ln} {k : Nat}
set_option maxRecDepth 100000 in
set_option maxHeartbeats 4000000 in
theorem take_any (he : w.heap[cb]? = some (.cells (chA C) 206 (0, 0))) (hk : k < 4) (hx : x.f.cls = (k : Int)) :
    Calls Tryz.prog 202 #[.pointer (some ⟨cb, 0, none⟩), .agg x.cells.toArray] w fun e w' => e = .returned (.tuple #[]) ∧ w'.heap[cb]? = some (.cells (chA (tkC C x k)) 206 (0, 0)) ∧ Oth (fun b => b = cb) w w' := by
  have hcb := heap_lt he
  have hne : cb ≠ w.heap.size := by omega
  obtain ⟨wX, hwX⟩ : ∃ wX, w.alloc (.cells x.cells.toArray 204) = wX := ⟨_, rfl⟩
  have hbX : Below w.heap.size w wX := by rw [← hwX]; exact (Below.refl _ _).alloc (Nat.le_refl _) _
  have heX : wX.heap[w.heap.size]? = some (.cells x.cells.toArray 204 (0, 0)) := by rw [← hwX]; exact heap_alloc_new w _
  have heS : wX.heap[cb]? = some (.cells (chA C) 206 (0, 0)) := (hbX.block cb hcb).trans he
  have c6 := row_cell heS (k * 7 + 6) _ (chA_c C k hk)
  have HO := boxed (Oth.of (X := fun b => b = cb) hbX)
  have HE := boxed heS
  have hk2 : (k : Int) < 4 := by omega
  have HG : Box (∀ W : World, Below wX.heap.size wX W → W.heap[cb]? = some (.cells (chA C) 206 (0, 0)) ∧ W.heap[w.heap.size]? = some (.cells x.cells.toArray 204 (0, 0)) ∧ Oth (fun b => b = cb) w W) := boxed (fun W hb => ⟨(hb.block _ (by have := hbX.size; omega)).trans heS, (hb.block _ (heap_lt heX)).trans heX, HO.out.trans (Oth.of hb)⟩)
  have HS : Box (∀ W : World, W.heap[cb]? = some (.cells (chA C) 206 (0, 0)) → Oth (fun b => b = cb) w W → (W.setCells cb (k * 7) x.cells).heap[cb]? = some (.cells (chA (fun j => if j = k then x else C j)) 206 (0, 0)) ∧ Oth (fun b => b = cb) w (W.setCells cb (k * 7) x.cells)) := boxed (by
    intro W heS hO
    have h1 := sets_heap cb 206 x.cells (k * 7) W _ heS
    rw [chA_set C x k hk] at h1
    have h2 := sets_below cb 0 (by omega) x.cells (k * 7) W
    exact ⟨h1, hO.trans ⟨h2.os, h2.tape, h2.output, h2.size, fun b _ hb => sets_other cb b hb _ _ _⟩⟩)
  have HT : Box (∀ W : World, W.heap[cb]? = some (.cells (chA C) 206 (0, 0)) → (Instr.storeAt 204 (.pointer (some ⟨cb, k * 7, none⟩)) (.agg x.cells.toArray)).run Tryz.prog W = .ok () (W.setCells cb (k * 7) x.cells)) := boxed (by
    intro W heS
    have := run_storeAt_mid (P := Tryz.prog) W cb (k * 7) 204 x.cells.toArray (fun j hj => ?_) (by kernel_rfl) (by simp [Ln.cells, Value.oneCell'])
    · exact this
    · have hj2 : j < 7 := hj
      refine ⟨?_, row_free heS _⟩
      have hj3 : k * 7 + j < (chA C).size := by rw [chA_size]; omega
      rw [row_cell heS (k * 7 + j) (chA C)[k * 7 + j] (by simp [hj3])]
      rfl)
  clear he heS hbX
  obtain ⟨⟨x0, x1, x2, x3, x4, x5, x6⟩, -⟩ := cells7 heX
  clear heX
  unfold Ln.cells at *
  rw [hx] at *
  simp only [List.cons_append] at *
  by_cases hc : x.c < (C k).c
  · have e1 : tkC C x k = fun j => if j = k then x else C j := by unfold tkC; rw [if_pos hc]
    rw [e1]
    have d1 : decide (x.c < (C k).c) = true := decide_eq_true hc
    generalize (C k).c = y at *
    go_enter Tryz.func202, Tryz.ntmps202
    go_wp2_with fail
    go_quiet (fail)
    go_wp2_with fail
    obtain ⟨W, hW⟩ : ∃ W, wX.drewN nq = W := ⟨_, rfl⟩
    rw [hW]
    have hBW : Below wX.heap.size wX W := by rw [← hW]; exact bel_drewN _ _ _
    clear hW x0 x1 x2 x3 x4 x5 x6 c6
    obtain ⟨g1, g2, g3⟩ := HG.out _ hBW
    obtain ⟨⟨x0, x1, x2, x3, x4, x5, x6⟩, -⟩ := cells7 g2
    have z := fun j hj => chA_at C k j hk hj
    have u0 := row_cell g1 (k * 7 + 0) _ (z 0 (by omega))
    have f0 := row_free g1 (k * 7 + 0)
    have u1 := row_cell g1 (k * 7 + 1) _ (z 1 (by omega))
    have f1 := row_free g1 (k * 7 + 1)
    have u2 := row_cell g1 (k * 7 + 2) _ (z 2 (by omega))
    have f2 := row_free g1 (k * 7 + 2)
    have u3 := row_cell g1 (k * 7 + 3) _ (z 3 (by omega))
    have f3 := row_free g1 (k * 7 + 3)
    have u4 := row_cell g1 (k * 7 + 4) _ (z 4 (by omega))
    have f4 := row_free g1 (k * 7 + 4)
    have u5 := row_cell g1 (k * 7 + 5) _ (z 5 (by omega))
    have f5 := row_free g1 (k * 7 + 5)
    have u6 := row_cell g1 (k * 7 + 6) _ (z 6 (by omega))
    have f6 := row_free g1 (k * 7 + 6)
    simp [Ln.cells] at u0 u1 u2 u3 u4 u5 u6 f0
    clear z
    obtain ⟨p1, p2⟩ := HS.out W g1 g3
    obtain ⟨p1', p2'⟩ := HS.out W.drew g1 g3.drew
    simp only [World.setCells, Nat.add_assoc, Nat.reduceAdd] at p1 p2 p1' p2'
    have P1 := boxed p1
    have P2 := boxed p2
    have P1' := boxed p1'
    have P2' := boxed p2'
    clear p1 p2 p1' p2' g1 g2 g3 HT HS HG
    go_region
    refine bodyPost_end (results_none rfl _ _ _) rfl ?_
    refine ⟨rfl, ?_, P2.out.drew⟩
    rw [heap_drew]
    exact P1.out
  · have e1 : tkC C x k = C := by unfold tkC; rw [if_neg hc]
    rw [e1]
    have d1 : decide (x.c < (C k).c) = false := decide_eq_false hc
    generalize (C k).c = y at *
    go_enter Tryz.func202, Tryz.ntmps202
    go_wp2_with fail
    go_quiet (fail)
    go_wp2_with fail
    refine bodyPost_end (results_none rfl _ _ _) rfl ?_
    obtain ⟨g1, g2, g3⟩ := HG.out _ (bel_drewN _ _ _)
    exact ⟨rfl, g1, g3⟩
end
end Go.Proofs.YtcjcdpfjnomehaaGreat

/-
  The search under way as it lies in memory; what its method enter does.
-/
namespace Go.Proofs.YtcjcdpfjnomehaaGreat
open Go.RowKit
set_option linter.unusedSimpArgs false
set_option linter.unusedVariables false
structure SS (B sb pb rb rc m : Nat) (width : Int) (s : Stg) (w : World) (bound near : Int) (v1 v2 : Value) (L1 L2 : List (Nat × Int)) : Prop where
  sr : SrAt w sb pb width s rb m rc bound near v1 v2
  w1 : WinAt B w v1 L1
  w2 : WinAt B w v2 L2
  b1 : ∀ g, wblk v1 = some g → B ≤ g ∧ g < w.heap.size ∧ g ≠ sb ∧ g ≠ rb ∧ wblk v2 ≠ some g
  b2 : ∀ g, wblk v2 = some g → B ≤ g ∧ g < w.heap.size ∧ g ≠ sb ∧ g ≠ rb
  hs : B ≤ sb ∧ sb < w.heap.size ∧ sb ≠ rb ∧ B ≤ rb ∧ rb < w.heap.size
def SX (sb : Nat) (v1 v2 : Value) : Nat → Prop := fun k => k = sb ∨ wblk v1 = some k ∨ wblk v2 = some k
theorem SS.below {B sb pb rb rc m : Nat} {width : Int} {s : Stg} {w w' : World} {bound near : Int} {v1 v2 : Value} {L1 L2 : List (Nat × Int)} (h : SS B sb pb rb rc m width s w bound near v1 v2 L1 L2) (hb : Below w.heap.size w w') : SS B sb pb rb rc m width s w' bound near v1 v2 L1 L2 := by
  have hz := hb.size
  refine ⟨?_, h.w1.below hb, h.w2.below hb, fun g hg => ?_, fun g hg => ?_, ?_⟩
  · have := h.sr; unfold SrAt at this ⊢; rw [hb.block sb h.hs.2.1]; exact this
  · obtain ⟨a1, a2, a3⟩ := h.b1 g hg; exact ⟨a1, by omega, a3⟩
  · obtain ⟨a1, a2, a3⟩ := h.b2 g hg; exact ⟨a1, by omega, a3⟩
  · obtain ⟨a1, a2, a3, a4, a5⟩ := h.hs; exact ⟨a1, by omega, a3, a4, by omega⟩
theorem SS.oth {B sb pb rb rc m : Nat} {width : Int} {s : Stg} {w w' : World} {bound near : Int} {v1 v2 : Value} {L1 L2 : List (Nat × Int)} {X : Nat → Prop} (h : SS B sb pb rb rc m width s w bound near v1 v2 L1 L2) (hb : Oth X w w') (hX : ∀ k, X k → ¬ SX sb v1 v2 k) : SS B sb pb rb rc m width s w' bound near v1 v2 L1 L2 := by
  have hz := hb.size
  have hk : ∀ k, k < w.heap.size → SX sb v1 v2 k → w'.heap[k]? = w.heap[k]? := fun k hk hs => hb.block k hk (fun hx => hX k hx hs)
  refine ⟨?_, h.w1.keep (fun g hg hl => hk g hl (.inr (.inl hg))), h.w2.keep (fun g hg hl => hk g hl (.inr (.inr hg))), fun g hg => ?_, fun g hg => ?_, ?_⟩
  · have := h.sr; unfold SrAt at this ⊢; rw [hk sb h.hs.2.1 (.inl rfl)]; exact this
  · obtain ⟨a1, a2, a3⟩ := h.b1 g hg; exact ⟨a1, by omega, a3⟩
  · obtain ⟨a1, a2, a3⟩ := h.b2 g hg; exact ⟨a1, by omega, a3⟩
  · obtain ⟨a1, a2, a3, a4, a5⟩ := h.hs; exact ⟨a1, by omega, a3, a4, by omega⟩
theorem SS.c {B sb pb rb rc m : Nat} {width : Int} {s : Stg} {w : World} {bound near : Int} {v1 v2 : Value} {L1 L2 : List (Nat × Int)} (h : SS B sb pb rb rc m width s w bound near v1 v2 L1 L2) :
    (w.cell? ⟨sb, 0, none⟩ = some (.pointer (some ⟨pb, 0, none⟩)) ∧ w.cell? ⟨sb, 1, none⟩ = some (.int .i64 width) ∧ w.cell? ⟨sb, 2, none⟩ = some (.int .i64 s.t) ∧ w.cell? ⟨sb, 9, none⟩ = some (.slice (some ⟨rb, 0, none⟩) m rc) ∧ w.cell? ⟨sb, 10, none⟩ = some (.int .i64 bound) ∧ w.cell? ⟨sb, 11, none⟩ = some (.int .i64 near) ∧ w.cell? ⟨sb, 12, none⟩ = some v1 ∧ w.cell? ⟨sb, 13, none⟩ = some v2) ∧ w.frozen? ⟨sb, 10, none⟩ = false ∧ w.frozen? ⟨sb, 11, none⟩ = false :=
  ⟨⟨row_cell h.sr 0 _ rfl, row_cell h.sr 1 _ rfl, row_cell h.sr 2 _ rfl, row_cell h.sr 9 _ rfl, row_cell h.sr 10 _ rfl, row_cell h.sr 11 _ rfl, row_cell h.sr 12 _ rfl, row_cell h.sr 13 _ rfl⟩, row_free h.sr 10, row_free h.sr 11⟩
theorem SS.set {B sb pb rb rc m : Nat} {width : Int} {s : Stg} {w : World} {bound near b' n' : Int} {v1 v2 : Value} {L1 L2 : List (Nat × Int)} (h : SS B sb pb rb rc m width s w bound near v1 v2 L1 L2) (w' : World) (hw : w'.heap[sb]? = some (.cells (srA pb width s (.slice (some ⟨rb, 0, none⟩) m rc) b' n' v1 v2) 202 (0, 0))) (hO : Oth (fun k => k = sb) w w') : SS B sb pb rb rc m width s w' b' n' v1 v2 L1 L2 := by
  have hz := hO.size
  refine ⟨hw, h.w1.keep (fun g hg hl => hO.block g hl (h.b1 g hg).2.2.1), h.w2.keep (fun g hg hl => hO.block g hl (h.b2 g hg).2.2.1), fun g hg => ?_, fun g hg => ?_, ?_⟩
  · obtain ⟨a1, a2, a3⟩ := h.b1 g hg; exact ⟨a1, by omega, a3⟩
  · obtain ⟨a1, a2, a3⟩ := h.b2 g hg; exact ⟨a1, by omega, a3⟩
  · obtain ⟨a1, a2, a3, a4, a5⟩ := h.hs; exact ⟨a1, by omega, a3, a4, by omega⟩
section
variable {S : Nat → Prop} {w : World} {B sb pb rb rc n : Nat} {I : Nat → Itm} {width : Int} {s : Stg} {bound near : Int} {v1 v2 : Value} {L1 L2 : List (Nat × Int)}
theorem add1_any (h : SS B sb pb rb rc (nbk I n) width s w bound near v1 v2 L1 L2) (hl : L1.length ≤ 262144) (x : Nat × Int) :
    Calls Tryz.prog 212 #[.pointer (some ⟨sb, 12, none⟩), lnV x.1 wF x.2] w fun e w' => e = .returned (.tuple #[]) ∧ ∃ v', SS B sb pb rb rc (nbk I n) width s w' bound near v' v2 (L1.take (pk L1 x.2 L1.length) ++ [x]) L2 ∧ (∀ k, k < w.heap.size → SX sb v' v2 k → SX sb v1 v2 k) ∧ Oth (SX sb v1 v2) w w' := by
  refine (wadd_any (off := 12) (v := v1) h.sr rfl h.w1 (by have := h.hs; omega) hl (fun e => (h.b1 sb e).2.2.1 rfl) x).mono ?_
  rintro e w' ⟨rfl, v', he, hw, hb, hO⟩
  have hz := hO.size
  have hO2 : Oth (SX sb v1 v2) w w' := hO.mono (fun k _ hk => by rcases hk with hk | hk; exact .inl hk; exact .inr (.inl hk))
  refine ⟨rfl, v', ⟨he, hw, h.w2.keep (fun g hg hl => hO.block g hl (fun hx => by
    rcases hx with hx | hx
    · exact (h.b2 g hg).2.2.1 hx
    · exact (h.b1 g hx).2.2.2.2 hg)), fun g hg => ?_, fun g hg => ?_, ?_⟩, fun k hk hx => ?_, hO2⟩
  · rcases hb with hb | ⟨g1, hb, hlt⟩
    · obtain ⟨a1, a2, a3⟩ := h.b1 g (by rw [← hb]; exact hg); exact ⟨a1, by omega, a3⟩
    · rw [hb] at hg
      injection hg with hg
      subst hg
      have hs := h.hs
      refine ⟨by omega, ?_, by omega, by omega, fun e => by have := (h.b2 g1 e).2.1; omega⟩
      rcases hw with ⟨e1, e2⟩ | ⟨g2, o, cap, e1, -, hc, -, h4, -⟩
      · rw [e1] at hb; simp [wblk] at hb
      · rw [e1] at hb
        simp [wblk] at hb
        subst hb
        simp at hc
        obtain ⟨u, hu⟩ := Option.isSome_iff_exists.1 (h4 0 (by omega)).1
        exact World.block_lt_of_cell? w' _ hu
  · obtain ⟨a1, a2, a3⟩ := h.b2 g hg; exact ⟨a1, by omega, a3⟩
  · obtain ⟨a1, a2, a3, a4, a5⟩ := h.hs; exact ⟨a1, by omega, a3, a4, by omega⟩
  · rcases hx with hx | hx | hx
    · exact .inl hx
    · rcases hb with hb | ⟨g1, hb, hlt⟩
      · exact .inr (.inl (by rw [← hb]; exact hx))
      · rw [hb] at hx; injection hx with hx; omega
    · exact .inr (.inr hx)
theorem add2_any (h : SS B sb pb rb rc (nbk I n) width s w bound near v1 v2 L1 L2) (hl : L2.length ≤ 262144) (x : Nat × Int) :
    Calls Tryz.prog 212 #[.pointer (some ⟨sb, 13, none⟩), lnV x.1 wF x.2] w fun e w' => e = .returned (.tuple #[]) ∧ ∃ v', SS B sb pb rb rc (nbk I n) width s w' bound near v1 v' L1 (L2.take (pk L2 x.2 L2.length) ++ [x]) ∧ (∀ k, k < w.heap.size → SX sb v1 v' k → SX sb v1 v2 k) ∧ Oth (SX sb v1 v2) w w' := by
  refine (wadd_any (off := 13) (v := v2) h.sr rfl h.w2 (by have := h.hs; omega) hl (fun e => (h.b2 sb e).2.2.1 rfl) x).mono ?_
  rintro e w' ⟨rfl, v', he, hw, hb, hO⟩
  have hz := hO.size
  have hO2 : Oth (SX sb v1 v2) w w' := hO.mono (fun k _ hk => by rcases hk with hk | hk; exact .inl hk; exact .inr (.inr hk))
  refine ⟨rfl, v', ⟨he, h.w1.keep (fun g hg hl => hO.block g hl (fun hx => by
    rcases hx with hx | hx
    · exact (h.b1 g hg).2.2.1 hx
    · exact (h.b1 g hg).2.2.2.2 hx)), hw, fun g hg => ?_, fun g hg => ?_, ?_⟩, fun k hk hx => ?_, hO2⟩
  · obtain ⟨a1, a2, a3, a4, a5⟩ := h.b1 g hg
    refine ⟨a1, by omega, a3, a4, fun e => ?_⟩
    rcases hb with hb | ⟨g1, hb, hlt⟩
    · exact a5 (by rw [← hb]; exact e)
    · rw [hb] at e; injection e with e; omega
  · rcases hb with hb | ⟨g1, hb, hlt⟩
    · obtain ⟨a1, a2, a3⟩ := h.b2 g (by rw [← hb]; exact hg); exact ⟨a1, by omega, a3⟩
    · rw [hb] at hg
      injection hg with hg
      subst hg
      have hs := h.hs
      refine ⟨by omega, ?_, by omega, by omega⟩
      rcases hw with ⟨e1, e2⟩ | ⟨g2, o, cap, e1, -, hc, -, h4, -⟩
      · rw [e1] at hb; simp [wblk] at hb
      · rw [e1] at hb
        simp [wblk] at hb
        subst hb
        simp at hc
        obtain ⟨u, hu⟩ := Option.isSome_iff_exists.1 (h4 0 (by omega)).1
        exact World.block_lt_of_cell? w' _ hu
  · obtain ⟨a1, a2, a3, a4, a5⟩ := h.hs; exact ⟨a1, by omega, a3, a4, by omega⟩
  · rcases hx with hx | hx | hx
    · exact .inl hx
    · exact .inr (.inl hx)
    · rcases hb with hb | ⟨g1, hb, hlt⟩
      · exact .inr (.inr (by rw [← hb]; exact hx))
      · rw [hb] at hx; injection hx with hx; omega
theorem leave1_any (h : SS B sb pb rb rc (nbk I n) width s w bound near v1 v2 L1 L2) (hl : L1.length ≤ 262144) (en : Int) :
    Calls Tryz.prog 201 #[.pointer (some ⟨sb, 12, none⟩), .int .i64 en] w fun e w' => e = .returned (.tuple #[]) ∧ ∃ v', SS B sb pb rb rc (nbk I n) width s w' bound near v' v2 (L1.dropWhile (fun x => decide (en ≤ (x.1 : Int)))) L2 ∧ (∀ k, SX sb v' v2 k → SX sb v1 v2 k) ∧ Oth (SX sb v1 v2) w w' := by
  refine (leave_any (off := 12) (v := v1) h.sr rfl h.w1 hl (fun e => (h.b1 sb e).2.2.1 rfl) en).mono ?_
  rintro e w' ⟨rfl, v', he, hw, hb, hO⟩
  have hz := hO.size
  refine ⟨rfl, v', ⟨he, hw, h.w2.keep (fun g hg hl => hO.block g hl (fun hx => (h.b2 g hg).2.2.1 hx)), fun g hg => ?_, fun g hg => ?_, ?_⟩, fun k hx => ?_, hO.mono (fun k _ hk => .inl hk)⟩
  · rw [hb] at hg
    obtain ⟨a1, a2, a3⟩ := h.b1 g hg; exact ⟨a1, by omega, a3⟩
  · obtain ⟨a1, a2, a3⟩ := h.b2 g hg; exact ⟨a1, by omega, a3⟩
  · obtain ⟨a1, a2, a3, a4, a5⟩ := h.hs; exact ⟨a1, by omega, a3, a4, by omega⟩
  · unfold SX at hx ⊢; rw [hb] at hx; exact hx
theorem leave2_any (h : SS B sb pb rb rc (nbk I n) width s w bound near v1 v2 L1 L2) (hl : L2.length ≤ 262144) (en : Int) :
    Calls Tryz.prog 201 #[.pointer (some ⟨sb, 13, none⟩), .int .i64 en] w fun e w' => e = .returned (.tuple #[]) ∧ ∃ v', SS B sb pb rb rc (nbk I n) width s w' bound near v1 v' L1 (L2.dropWhile (fun x => decide (en ≤ (x.1 : Int)))) ∧ (∀ k, SX sb v1 v' k → SX sb v1 v2 k) ∧ Oth (SX sb v1 v2) w w' := by
  refine (leave_any (off := 13) (v := v2) h.sr rfl h.w2 hl (fun e => (h.b2 sb e).2.2.1 rfl) en).mono ?_
  rintro e w' ⟨rfl, v', he, hw, hb, hO⟩
  have hz := hO.size
  refine ⟨rfl, v', ⟨he, h.w1.keep (fun g hg hl => hO.block g hl (fun hx => (h.b1 g hg).2.2.1 hx)), hw, fun g hg => ?_, fun g hg => ?_, ?_⟩, fun k hx => ?_, hO.mono (fun k _ hk => .inl hk)⟩
  · obtain ⟨a1, a2, a3, a4, a5⟩ := h.b1 g hg; exact ⟨a1, by omega, a3, a4, by rw [hb]; exact a5⟩
  · rw [hb] at hg
    obtain ⟨a1, a2, a3⟩ := h.b2 g hg; exact ⟨a1, by omega, a3⟩
  · obtain ⟨a1, a2, a3, a4, a5⟩ := h.hs; exact ⟨a1, by omega, a3, a4, by omega⟩
  · unfold SX at hx ⊢; rw [hb] at hx; exact hx
def uC (I : Nat → Itm) (n : Nat) (s : Stg) (fl : Bool) (e : Nat) (r : Int) : Int := tt (cst s wF (itb I n e) (-1) fl (decide (e + 1 = nbk I n))) r
end
end Go.Proofs.YtcjcdpfjnomehaaGreat

/-
  What the search's method enter does.
-/
namespace Go.Proofs.YtcjcdpfjnomehaaGreat
open Go.RowKit
set_option linter.unusedSimpArgs false
set_option linter.unusedVariables false
theorem kp_lt {B : Nat} {w w' : World} (h : Below B w w') : Kp (fun b => b < B) (fun b => b < B) w w' := fun b i u hs hc => ⟨hs, by rw [h.cell (p := ⟨b, i, none⟩) hs]; exact hc⟩
theorem Oth.trans2 {X Y : Nat → Prop} {a b c : World} (h : Oth X a b) (k : Oth Y b c) (hxy : ∀ i, i < a.heap.size → Y i → X i) : Oth X a c := ⟨k.os.trans h.os, k.tape.trans h.tape, k.output.trans h.output, Nat.le_trans h.size k.size, fun i hi hx => (k.block i (Nat.lt_of_lt_of_le hi h.size) (fun hy => hx (hxy i hi hy))).trans (h.block i hi hx)⟩
section
variable {w : World} {B sb pb rb rc n : Nat} {I : Nat → Itm} {width : Int} {s : Stg} {bound near : Int} {v1 v2 : Value} {L1 L2 : List (Nat × Int)}
theorem SX_below (h : SS B sb pb rb rc (nbk I n) width s w bound near v1 v2 L1 L2) {w' : World} (hO : Oth (SX sb v1 v2) w w') : Below B w w' := hO.below (fun k hk => by
  rcases hk with hk | hk | hk
  · rw [hk]; exact h.hs.1
  · exact (h.b1 k hk).1
  · exact (h.b2 k hk).1) (by have := h.hs; omega)
theorem SX_rb (h : SS B sb pb rb rc (nbk I n) width s w bound near v1 v2 L1 L2) : ¬ SX sb v1 v2 rb := fun hk => by
  rcases hk with hk | hk | hk
  · exact h.hs.2.2.1 hk.symm
  · exact (h.b1 rb hk).2.2.2.1 rfl
  · exact (h.b2 rb hk).2.2.2 rfl
def ent (s : Stg) (L : List (Nat × Int)) (x : Nat × Int) : List (Nat × Int) := if s.t = 10000 then L.take (pk L x.2 L.length) ++ [x] else L
set_option maxRecDepth 100000 in
set_option maxHeartbeats 8000000 in
theorem enter_any (h : ParaAt (fun b => b < B) w pb n I) (hn : n ≤ 262144) (hss : SS B sb pb rb rc (nbk I n) width s w bound near v1 v2 L1 L2) (e : Nat) (he : e < nbk I n) (r : Int) (hr : w.cell? ⟨rb, e * 8 + 6, none⟩ = some (.int .i64 r)) (hl1 : L1.length ≤ 262144) (hl2 : L2.length ≤ 262144) :
    Calls Tryz.prog 199 #[.pointer (some ⟨sb, 0, none⟩), .int .i64 (e : Int)] w fun e' w' => e' = .returned (.tuple #[]) ∧ ∃ v1' v2', SS B sb pb rb rc (nbk I n) width s w' (if forc (itb I n e) = true then (e : Int) + 1 else bound) (if forc (itb I n e) = true then (e : Int) + 1 else near) v1' v2' (ent s L1 (e, uC I n s false e r)) (ent s L2 (e, uC I n s true e r)) ∧ (∀ k, k < w.heap.size → SX sb v1' v2' k → SX sb v1 v2 k) ∧ Oth (SX sb v1 v2) w w' := by
  have hm : nbk I n ≤ 262144 := by unfold nbk; have := lgs_len I n n; omega
  have hrb := hss.hs.2.2.2.2
  -- what stays
  have F1 : Box (∀ (W : World) (b' n' : Int) (u1 u2 : Value) (M1 M2 : List (Nat × Int)), SS B sb pb rb rc (nbk I n) width s W b' n' u1 u2 M1 M2 → Below B w W → W.heap[rb]? = w.heap[rb]? → ∀ fl, Calls Tryz.prog 213 #[.pointer (some ⟨sb, 0, none⟩), .int .i64 (e : Int), .bool fl] W fun e' w' => e' = .returned (lnV e wF (uC I n s fl e r)) ∧ Below W.heap.size W w') := boxed (fun W b' n' u1 u2 M1 M2 hS hb hrk fl =>
    worst_any (h.keep (kp_lt hb)) hn hS.sr e he r (by rw [World.cell?_of_block (w := w) (a := ⟨rb, e * 8 + 6, none⟩) hrk]; exact hr) fl)
  have HI := item9_any (sb := sb) h hn hss.c.1.1 e
  have HF := fun W => forced_any (itb I n e) W
  have HS0 := boxed hss
  have hne := hss.hs
  generalize forc (itb I n e) = fo at *
  unfold Itm.val at HI HF
  generalize itb I n e = x at *
  have hcell := boxed (fun (W : World) (hb : Below w.heap.size w W) => (HS0.out.below hb).c)
  clear h hr
  by_cases ht : s.t = 10000
  · have e1 : ∀ L x, ent s L x = L.take (pk L x.2 L.length) ++ [x] := fun L x => if_pos ht
    rw [e1, e1]
    cases fo
    · simp only [Bool.false_eq_true, if_false]
      have ht2 : (s.t == 10000) = true := by simp [ht]
      go_enter Tryz.func199, Tryz.ntmps199
      go_wp2_with fail
      refine HI.mono ?_
      rintro e' w1 ⟨rfl, hb1⟩
      have HB1 := boxed hb1
      clear hb1 HI
      go_wp2_with fail
      refine (HF _).mono ?_
      rintro e' w2 ⟨rfl, hb2⟩
      have HB2 := boxed (below_step HB1.out (Nat.le_refl _) hb2)
      have HS2 := boxed (HS0.out.below HB2.out)
      clear hb2 HF HB1
      obtain ⟨⟨c0, c1, c2, c9, c10, c11, c12, c13⟩, f10, f11⟩ := HS2.out.c
      have HSW := HS2
      have HOW : Box (Oth (SX sb v1 v2) w w2) := boxed (Oth.of HB2.out)
      clear HS2
      have HSD := boxed (HSW.out.below (Below.refl _ _).drew)
      have HOD := boxed HOW.out.drew
      go_wp2_with fail
      go_region_with (first
        | (go_at_call 213; refine (F1.out _ _ _ _ _ _ _ HSD.out (SX_below HS0.out HOD.out) (HOD.out.block rb hrb (SX_rb HS0.out)) false).mono ?_; rintro e' w3 ⟨rfl, hb3⟩; have HS3 := boxed (HSD.out.below hb3); have HO3 := boxed (HOD.out.trans (Oth.of hb3)); clear hb3)
        | (go_at_call 212; refine (add1_any HS3.out hl1 (e, uC I n s false e r)).mono ?_; rintro e' w4 ⟨rfl, v', hS4, hx4, hO4⟩; have HS4 := boxed hS4; have HX4 := boxed (fun k (hk : k < w.heap.size) => hx4 k (Nat.lt_of_lt_of_le hk HO3.out.size)); have HO4 := boxed (HO3.out.trans hO4); clear hS4 hx4 hO4))
      have HSE := boxed (HS4.out.below (Below.refl _ _).drew)
      have HOE := boxed HO4.out.drew
      go_wp2_with fail
      go_region_with (first
        | (go_at_call 213; refine (F1.out _ _ _ _ _ _ _ HSE.out (SX_below HS0.out HOE.out) (HOE.out.block rb hrb (SX_rb HS0.out)) true).mono ?_; rintro e' w5 ⟨rfl, hb5⟩; have HS5 := boxed (HSE.out.below hb5); have HO5 := boxed (HOE.out.trans (Oth.of hb5)); clear hb5)
        | (go_at_call 212; refine (add2_any HS5.out hl2 (e, uC I n s true e r)).mono ?_; rintro e' w6 ⟨rfl, v'', hS6, hx6, hO6⟩; have HS6 := boxed hS6; have HX6 := boxed (fun k (hk : k < w.heap.size) hx => HX4.out k hk (hx6 k (Nat.lt_of_lt_of_le hk HO5.out.size) hx)); have HO6 := boxed (HO5.out.trans2 hO6 HX4.out); clear hS6 hx6 hO6))
      go_wp2_with fail
      refine bodyPost_end (results_none rfl _ _ _) rfl ?_
      exact ⟨rfl, v', v'', HS6.out, HX6.out, HO6.out⟩
    · simp only [if_true]
      have ht2 : (s.t == 10000) = true := by simp [ht]
      go_enter Tryz.func199, Tryz.ntmps199
      go_wp2_with fail
      refine HI.mono ?_
      rintro e' w1 ⟨rfl, hb1⟩
      have HB1 := boxed hb1
      clear hb1 HI
      go_wp2_with fail
      refine (HF _).mono ?_
      rintro e' w2 ⟨rfl, hb2⟩
      have HB2 := boxed (below_step HB1.out (Nat.le_refl _) hb2)
      have HS2 := boxed (HS0.out.below HB2.out)
      clear hb2 HF HB1
      obtain ⟨⟨c0, c1, c2, c9, c10, c11, c12, c13⟩, f10, f11⟩ := HS2.out.c
      have HW : Box (((w2.setCell ⟨sb, 10, none⟩ (.int .i64 ((e : Int) + 1))).setCell ⟨sb, 11, none⟩ (.int .i64 ((e : Int) + 1))).heap[sb]? = some (.cells (srA pb width s (.slice (some ⟨rb, 0, none⟩) (nbk I n) rc) ((e : Int) + 1) ((e : Int) + 1) v1 v2) 202 (0, 0))) := boxed (arr_set _ (arr_set _ HS2.out.sr))
      have HOs : Box (Oth (fun k => k = sb) w2 ((w2.setCell ⟨sb, 10, none⟩ (.int .i64 ((e : Int) + 1))).setCell ⟨sb, 11, none⟩ (.int .i64 ((e : Int) + 1)))) := boxed (Oth.set (X := fun k => k = sb) (Oth.set (X := fun k => k = sb) (Oth.refl _ _) _ rfl) _ rfl)
      have HSW := boxed (HS2.out.set _ HW.out HOs.out)
      have HOW : Box (Oth (SX sb v1 v2) w ((w2.setCell ⟨sb, 10, none⟩ (.int .i64 ((e : Int) + 1))).setCell ⟨sb, 11, none⟩ (.int .i64 ((e : Int) + 1)))) := boxed ((Oth.of HB2.out).trans (HOs.out.mono (fun k _ hk => .inl hk)))
      clear HS2
      have HSD := boxed (HSW.out.below (Below.refl _ _).drew)
      have HOD := boxed HOW.out.drew
      go_wp2_with fail
      go_region_with (first
        | (go_at_call 213; refine (F1.out _ _ _ _ _ _ _ HSD.out (SX_below HS0.out HOD.out) (HOD.out.block rb hrb (SX_rb HS0.out)) false).mono ?_; rintro e' w3 ⟨rfl, hb3⟩; have HS3 := boxed (HSD.out.below hb3); have HO3 := boxed (HOD.out.trans (Oth.of hb3)); clear hb3)
        | (go_at_call 212; refine (add1_any HS3.out hl1 (e, uC I n s false e r)).mono ?_; rintro e' w4 ⟨rfl, v', hS4, hx4, hO4⟩; have HS4 := boxed hS4; have HX4 := boxed (fun k (hk : k < w.heap.size) => hx4 k (Nat.lt_of_lt_of_le hk HO3.out.size)); have HO4 := boxed (HO3.out.trans hO4); clear hS4 hx4 hO4))
      have HSE := boxed (HS4.out.below (Below.refl _ _).drew)
      have HOE := boxed HO4.out.drew
      go_wp2_with fail
      go_region_with (first
        | (go_at_call 213; refine (F1.out _ _ _ _ _ _ _ HSE.out (SX_below HS0.out HOE.out) (HOE.out.block rb hrb (SX_rb HS0.out)) true).mono ?_; rintro e' w5 ⟨rfl, hb5⟩; have HS5 := boxed (HSE.out.below hb5); have HO5 := boxed (HOE.out.trans (Oth.of hb5)); clear hb5)
        | (go_at_call 212; refine (add2_any HS5.out hl2 (e, uC I n s true e r)).mono ?_; rintro e' w6 ⟨rfl, v'', hS6, hx6, hO6⟩; have HS6 := boxed hS6; have HX6 := boxed (fun k (hk : k < w.heap.size) hx => HX4.out k hk (hx6 k (Nat.lt_of_lt_of_le hk HO5.out.size) hx)); have HO6 := boxed (HO5.out.trans2 hO6 HX4.out); clear hS6 hx6 hO6))
      go_wp2_with fail
      refine bodyPost_end (results_none rfl _ _ _) rfl ?_
      exact ⟨rfl, v', v'', HS6.out, HX6.out, HO6.out⟩
  · have e1 : ∀ L x, ent s L x = L := fun L x => if_neg ht
    rw [e1, e1]
    cases fo
    · simp only [Bool.false_eq_true, if_false]
      have ht2 : (s.t == 10000) = false := by simp [ht]
      go_enter Tryz.func199, Tryz.ntmps199
      go_wp2_with fail
      refine HI.mono ?_
      rintro e' w1 ⟨rfl, hb1⟩
      have HB1 := boxed hb1
      clear hb1 HI
      go_wp2_with fail
      refine (HF _).mono ?_
      rintro e' w2 ⟨rfl, hb2⟩
      have HB2 := boxed (below_step HB1.out (Nat.le_refl _) hb2)
      have HS2 := boxed (HS0.out.below HB2.out)
      clear hb2 HF HB1
      obtain ⟨⟨c0, c1, c2, c9, c10, c11, c12, c13⟩, f10, f11⟩ := HS2.out.c
      have HSW := HS2
      have HOW : Box (Oth (SX sb v1 v2) w w2) := boxed (Oth.of HB2.out)
      clear HS2
      go_wp2_with fail
      refine bodyPost_end (results_none rfl _ _ _) rfl ?_
      exact ⟨rfl, v1, v2, HSW.out, fun k _ hk => hk, HOW.out⟩
    · simp only [if_true]
      have ht2 : (s.t == 10000) = false := by simp [ht]
      go_enter Tryz.func199, Tryz.ntmps199
      go_wp2_with fail
      refine HI.mono ?_
      rintro e' w1 ⟨rfl, hb1⟩
      have HB1 := boxed hb1
      clear hb1 HI
      go_wp2_with fail
      refine (HF _).mono ?_
      rintro e' w2 ⟨rfl, hb2⟩
      have HB2 := boxed (below_step HB1.out (Nat.le_refl _) hb2)
      have HS2 := boxed (HS0.out.below HB2.out)
      clear hb2 HF HB1
      obtain ⟨⟨c0, c1, c2, c9, c10, c11, c12, c13⟩, f10, f11⟩ := HS2.out.c
      have HW : Box (((w2.setCell ⟨sb, 10, none⟩ (.int .i64 ((e : Int) + 1))).setCell ⟨sb, 11, none⟩ (.int .i64 ((e : Int) + 1))).heap[sb]? = some (.cells (srA pb width s (.slice (some ⟨rb, 0, none⟩) (nbk I n) rc) ((e : Int) + 1) ((e : Int) + 1) v1 v2) 202 (0, 0))) := boxed (arr_set _ (arr_set _ HS2.out.sr))
      have HOs : Box (Oth (fun k => k = sb) w2 ((w2.setCell ⟨sb, 10, none⟩ (.int .i64 ((e : Int) + 1))).setCell ⟨sb, 11, none⟩ (.int .i64 ((e : Int) + 1)))) := boxed (Oth.set (X := fun k => k = sb) (Oth.set (X := fun k => k = sb) (Oth.refl _ _) _ rfl) _ rfl)
      have HSW := boxed (HS2.out.set _ HW.out HOs.out)
      have HOW : Box (Oth (SX sb v1 v2) w ((w2.setCell ⟨sb, 10, none⟩ (.int .i64 ((e : Int) + 1))).setCell ⟨sb, 11, none⟩ (.int .i64 ((e : Int) + 1)))) := boxed ((Oth.of HB2.out).trans (HOs.out.mono (fun k _ hk => .inl hk)))
      clear HS2
      go_wp2_with fail
      refine bodyPost_end (results_none rfl _ _ _) rfl ?_
      exact ⟨rfl, v1, v2, HSW.out, fun k _ hk => hk, HOW.out⟩
end
end Go.Proofs.YtcjcdpfjnomehaaGreat

/-
  What the search's method hopeless does.
-/
namespace Go.Proofs.YtcjcdpfjnomehaaGreat
open Go.RowKit
set_option linter.unusedSimpArgs false
set_option linter.unusedVariables false
def rdI (sb off : Nat) (W : World) : Nat := match W.cell? ⟨sb, off, none⟩ with | some (.int _ n) => n.toNat | _ => 0
theorem rdI_eq {sb off : Nat} {W : World} {k : IntKind} {n : Int} (h : W.cell? ⟨sb, off, none⟩ = some (.int k n)) : rdI sb off W = n.toNat := by unfold rdI; rw [h]
def hop (C : Nat → Ln) : List (Nat × Int) → Nat → Ln
  | [] => C
  | x :: _ => tkC C ⟨x.1, wF, x.2⟩ 3
def dr (nr : Nat) (L : List (Nat × Int)) : List (Nat × Int) := L.dropWhile (fun x => decide ((nr : Int) ≤ (x.1 : Int)))
def sel (b : Bool) (A B : List (Nat × Int)) : List (Nat × Int) := if b = true then A else B
section
variable {w : World} {B sb pb rb rc n cb : Nat} {I : Nat → Itm} {width : Int} {s : Stg} {bound near : Int} {v1 v2 : Value} {L1 L2 : List (Nat × Int)} {C : Nat → Ln}
theorem hop_any (hc : w.heap[cb]? = some (.cells (chA C) 206 (0, 0))) (hC : (C 0).c ≤ Awf) (L : List (Nat × Int)) : ∀ x : Ln, (L = [] → x = ⟨0, ⟨0, 0, 0, 0, false⟩, Awf⟩) → (∀ y M, L = y :: M → x = ⟨y.1, wF, y.2⟩) →
    Calls Tryz.prog 202 #[.pointer (some ⟨cb, 0, none⟩), .agg x.cells.toArray] w fun e w' => e = .returned (.tuple #[]) ∧ w'.heap[cb]? = some (.cells (chA (hop C L)) 206 (0, 0)) ∧ Oth (fun b => b = cb) w w' := by
  intro x h0 h1
  cases L with
  | nil =>
    rw [h0 rfl]
    refine (take_any (k := 0) hc (by omega) rfl).mono ?_
    rintro e w' ⟨rfl, h2, h3⟩
    refine ⟨rfl, ?_, h3⟩
    rw [h2]
    have : tkC C ⟨0, ⟨0, 0, 0, 0, false⟩, Awf⟩ 0 = C := by unfold tkC; rw [if_neg (by show ¬ (Awf < (C 0).c); omega)]
    rw [this]
    rfl
  | cons y M =>
    rw [h1 y M rfl]
    exact take_any (k := 3) hc (by omega) rfl
theorem least_any {off : Nat} {v : Value} {L : List (Nat × Int)} (c : w.cell? ⟨sb, off, none⟩ = some v) (h : WinAt B w v L) (hl : L.length ≤ 262144) : Calls Tryz.prog 203 #[.pointer (some ⟨sb, off, none⟩)] w fun e w' => ∃ x : Ln, e = .returned (.agg x.cells.toArray) ∧ (L = [] → x = ⟨0, ⟨0, 0, 0, 0, false⟩, Awf⟩) ∧ (∀ y M, L = y :: M → x = ⟨y.1, wF, y.2⟩) ∧ Below w.heap.size w w' := by
  cases L with
  | nil =>
    refine (least_nil c h).mono ?_
    rintro e w' ⟨rfl, hb⟩
    exact ⟨⟨0, ⟨0, 0, 0, 0, false⟩, Awf⟩, rfl, fun _ => rfl, fun y M e => by (cases e), hb⟩
  | cons y M =>
    refine (least_cons y c h (by simp at hl; omega)).mono ?_
    rintro e w' ⟨rfl, hb⟩
    refine ⟨⟨y.1, wF, y.2⟩, rfl, fun e => by (cases e), fun y' M' e => ?_, hb⟩
    injection e with e1 e2
    rw [e1]
theorem dw_len (L : List (Nat × Int)) (p : Nat × Int → Bool) : (L.dropWhile p).length ≤ L.length := (List.dropWhile_sublist p).length_le
set_option maxRecDepth 100000 in
set_option maxHeartbeats 8000000 in
theorem hopeless_any (h : ParaAt (fun b => b < B) w pb n I) (hn : n ≤ 262144) (hok : ∀ i, i < n → okI I i = true) (hw : 1 ≤ width ∧ width ≤ 1073741824) (i nr bd : Nat) (k : Int) (hk : k + 1 = (i : Int)) (hi : i < nbk I n) (hss : SS B sb pb rb rc (nbk I n) width s w (bd : Int) (nr : Int) v1 v2 L1 L2) (hnr : forc (itb I n i) = true ∨ i + 1 ≤ nr) (hnm : nr ≤ nbk I n) (r : Int) (hr : w.cell? ⟨rb, i * 8 + 6, none⟩ = some (.int .i64 r)) (hl1 : L1.length ≤ 262143) (hl2 : L2.length ≤ 262143)
    (hc : w.heap[cb]? = some (.cells (chA C) 206 (0, 0))) (hC : (C 0).c ≤ Awf) (hcx : ¬ SX sb v1 v2 cb) (hcr : cb ≠ rb) (hcB : B ≤ cb) :
    Calls Tryz.prog 173 #[.pointer (some ⟨sb, 0, none⟩), .int .i64 k, .pointer (some ⟨cb, 0, none⟩)] w fun e' w' => e' = .returned (.tuple #[]) ∧ ∃ v1' v2' nr', (i ≤ nr' ∧ nr' ≤ (if forc (itb I n i) = true then i + 1 else nr) ∧ (nr' = i ∨ hpl I n width k ((nr' - 1 : Nat) : Int) = true)) ∧
      SS B sb pb rb rc (nbk I n) width s w' ((if forc (itb I n i) = true then i + 1 else bd : Nat) : Int) (nr' : Int) v1' v2' (dr nr' (ent s L1 (i, uC I n s false i r))) (dr nr' (ent s L2 (i, uC I n s true i r))) ∧
      w'.heap[cb]? = some (.cells (chA (hop C (sel (itb I n k).flag (dr nr' (ent s L2 (i, uC I n s true i r))) (dr nr' (ent s L1 (i, uC I n s false i r)))))) 206 (0, 0)) ∧ (∀ q, q < w.heap.size → SX sb v1' v2' q → SX sb v1 v2 q) ∧ Oth (fun q => SX sb v1 v2 q ∨ q = cb) w w' := by
  have hm : nbk I n ≤ 262144 := by unfold nbk; have := lgs_len I n n; omega
  have HE := enter_any h hn hss i hi r hr (by omega) (by omega)
  have hE1 : (ent s L1 (i, uC I n s false i r)).length ≤ 262144 := by
    unfold ent
    split
    · have := pk_le L1 (uC I n s false i r) L1.length
      rw [List.length_append, List.length_take, List.length_cons, List.length_nil]; omega
    · omega
  have hE2 : (ent s L2 (i, uC I n s true i r)).length ≤ 262144 := by
    unfold ent
    split
    · have := pk_le L2 (uC I n s true i r) L2.length
      rw [List.length_append, List.length_take, List.length_cons, List.length_nil]; omega
    · omega
  generalize ent s L1 (i, uC I n s false i r) = M1 at *
  generalize ent s L2 (i, uC I n s true i r) = M2 at *
  have HP : Box (∀ W, Below B w W → ParaAt (fun b => b < B) W pb n I) := boxed (fun W hb => h.keep (kp_lt hb))
  have HS0 := boxed hss
  have hcs := heap_lt hc
  -- the two bounds behind enter
  obtain ⟨nr0, hnr0⟩ : ∃ nr0, (if forc (itb I n i) = true then i + 1 else nr) = nr0 := ⟨_, rfl⟩
  obtain ⟨bd0, hbd0⟩ : ∃ bd0, (if forc (itb I n i) = true then i + 1 else bd) = bd0 := ⟨_, rfl⟩
  have en : (if forc (itb I n i) = true then (i : Int) + 1 else (nr : Int)) = (nr0 : Int) := by rw [← hnr0]; split <;> simp
  have eb : (if forc (itb I n i) = true then (i : Int) + 1 else (bd : Int)) = (bd0 : Int) := by rw [← hbd0]; split <;> simp
  rw [en, eb] at HE
  rw [hnr0, hbd0]
  have hi0 : i + 1 ≤ nr0 := by rw [← hnr0]; split <;> first | omega | (rcases hnr with h | h; exact absurd h (by assumption); exact h)
  have him : nr0 ≤ nbk I n := by rw [← hnr0]; split <;> omega
  clear hnr0 hbd0 en eb hnr h hr hss
  have HC0 := boxed hc
  have HCX := boxed hcx
  clear hc hcx
  go_enter Tryz.func173, Tryz.ntmps173
  go_wp2_with fail
  refine HE.mono ?_
  rintro e' w1 ⟨rfl, u1, u2, hS1, hx1, hO1⟩
  have HS1 := boxed hS1
  have HX1 := boxed hx1
  have HO1 := boxed hO1
  have HC1 : Box (w1.heap[cb]? = some (.cells (chA C) 206 (0, 0))) := boxed ((hO1.block cb hcs HCX.out).trans HC0.out)
  clear hS1 hx1 hO1 HE
  go_wp2_with fail
  go_loopw [] (fun wr => Box (∃ nr' : Nat, i ≤ nr' ∧ nr' ≤ nr0 ∧ SS B sb pb rb rc (nbk I n) width s wr (bd0 : Int) (nr' : Int) u1 u2 M1 M2 ∧ wr.heap[cb]? = some (.cells (chA C) 206 (0, 0)) ∧ Oth (SX sb v1 v2) w wr)) (fun wr => rdI sb 11 wr)
  case atStart => exact boxed ⟨nr0, by omega, Nat.le_refl _, HS1.out, HC1.out, HO1.out⟩
  case round =>
    obtain ⟨nr', g1, g2, hSr, hcr', hOr⟩ := hrel.out
    clear hrel
    obtain ⟨⟨c0, c1, c2, c9, c10, c11, c12, c13⟩, f10, f11⟩ := hSr.c
    have HSr := boxed hSr
    have HCr := boxed hcr'
    have HOr := boxed hOr
    clear hSr hcr' hOr
    have hPr := HP.out wr (SX_below HS0.out HOr.out)
    have hk1 : -1 ≤ k ∧ k ≤ 262144 := by omega
    by_cases hq : nr' = i
    · subst hq
      have t1 : decide ((nr' : Int) < (nr' : Int)) = false := by simp
      clear hPr
      have HSD := boxed (HSr.out.below (Below.refl _ _).drew)
      have HOD := boxed HOr.out.drew
      have HCD : Box (wr.drew.heap[cb]? = some (.cells (chA C) 206 (0, 0))) := HCr
      go_wp2_with fail
      go_region_with (first
        | (go_at_call 201; refine (leave1_any HSD.out hE1 ((nr' : Int))).mono ?_; rintro e' w3 ⟨rfl, y1, hS3, hx3, hO3⟩; have HS3 := boxed hS3; have HX3 := boxed (fun q (hq : q < w.heap.size) hx => HX1.out q hq (hx3 q hx)); have HO3 := boxed (HOD.out.trans2 hO3 HX1.out); have HC3 : Box (w3.heap[cb]? = some (.cells (chA C) 206 (0, 0))) := boxed ((hO3.block cb (heap_lt HCD.out) (fun hx => HCX.out (HX1.out cb hcs hx))).trans HCD.out); clear hS3 hx3 hO3))
      all_goals
        obtain ⟨⟨d0, -, -, -, -, d11, -, -⟩, -⟩ := HS3.out.c
        have HSE := boxed (HS3.out.below (Below.refl _ _).drew)
        have HOE := boxed HO3.out.drew
        have HCE : Box (w3.drew.heap[cb]? = some (.cells (chA C) 206 (0, 0))) := HC3
        go_wp2_with fail
        go_region_with (first
          | (go_at_call 201; refine (leave2_any HSE.out hE2 ((nr' : Int))).mono ?_; rintro e' w4 ⟨rfl, y2, hS4, hx4, hO4⟩; have HS4 := boxed hS4; have HX4 := boxed (fun q (hq : q < w.heap.size) hx => HX3.out q hq (hx4 q hx)); have HO4 := boxed (HOE.out.trans2 hO4 HX3.out); have HC4 : Box (w4.heap[cb]? = some (.cells (chA C) 206 (0, 0))) := boxed ((hO4.block cb (heap_lt HCE.out) (fun hx => HCX.out (HX3.out cb hcs hx))).trans HCE.out); clear hS4 hx4 hO4))
        all_goals
          have HIT := item9_any (sb := sb) (HP.out w4 (SX_below HS0.out HO4.out)) hn HS4.out.c.1.1 k
          unfold Itm.val at HIT
          obtain ⟨fl, HFL⟩ : ∃ fl, (itb I n k).flag = fl := ⟨_, rfl⟩
          rw [HFL] at HIT
          replace HFL := boxed HFL
          have hfi := fldI
          go_wp2_with fail
          refine HIT.mono ?_
          rintro e' w5 ⟨rfl, hb5⟩
          have HS5 := boxed (HS4.out.below hb5)
          have HO5 := boxed (HO4.out.trans (Oth.of hb5))
          have HC5 : Box (w5.heap[cb]? = some (.cells (chA C) 206 (0, 0))) := boxed ((hb5.block cb (heap_lt HC4.out)).trans HC4.out)
          clear hb5 HIT
          cases fl
          · go_wp2_with (first
              | (go_at_call 203; refine (least_any HS5.out.c.1.2.2.2.2.2.2.1 HS5.out.w1 (Nat.le_trans (dw_len _ _) hE1)).mono ?_; rintro e' w6 ⟨x6, rfl, h60, h61, hb6⟩; have HS6 := boxed (HS5.out.below hb6); have HO6 := boxed (HO5.out.trans (Oth.of hb6)); have HC6 : Box (w6.heap[cb]? = some (.cells (chA C) 206 (0, 0))) := boxed ((hb6.block cb (heap_lt HC5.out)).trans HC5.out); have H60 := boxed h60; have H61 := boxed h61; clear hb6 h60 h61)
              | (go_at_call 202; refine (hop_any HC6.out hC _ x6 H60.out H61.out).mono ?_; rintro e' w7 ⟨rfl, hc7, hO7⟩; have HC7 := boxed hc7; have HS7 := boxed (HS6.out.oth hO7 (fun q hq hx => by rw [hq] at hx; exact HCX.out (HX4.out cb hcs hx))); have HO7 : Box (Oth (fun q => SX sb v1 v2 q ∨ q = cb) w w7) := boxed ((HO6.out.mono (fun q _ hq => .inl hq)).trans (hO7.mono (fun q _ hq => .inr hq))); clear hc7 hO7))
            all_goals
              go_wp2_with fail
              refine bodyPost_end (results_none rfl _ _ _) rfl ?_
              exact ⟨rfl, y1, y2, nr', ⟨by omega, by omega, .inl rfl⟩, HS7.out, by rw [HFL.out]; exact HC7.out, HX4.out, HO7.out⟩
          · go_wp2_with (first
              | (go_at_call 203; refine (least_any HS5.out.c.1.2.2.2.2.2.2.2 HS5.out.w2 (Nat.le_trans (dw_len _ _) hE2)).mono ?_; rintro e' w6 ⟨x6, rfl, h60, h61, hb6⟩; have HS6 := boxed (HS5.out.below hb6); have HO6 := boxed (HO5.out.trans (Oth.of hb6)); have HC6 : Box (w6.heap[cb]? = some (.cells (chA C) 206 (0, 0))) := boxed ((hb6.block cb (heap_lt HC5.out)).trans HC5.out); have H60 := boxed h60; have H61 := boxed h61; clear hb6 h60 h61)
              | (go_at_call 202; refine (hop_any HC6.out hC _ x6 H60.out H61.out).mono ?_; rintro e' w7 ⟨rfl, hc7, hO7⟩; have HC7 := boxed hc7; have HS7 := boxed (HS6.out.oth hO7 (fun q hq hx => by rw [hq] at hx; exact HCX.out (HX4.out cb hcs hx))); have HO7 : Box (Oth (fun q => SX sb v1 v2 q ∨ q = cb) w w7) := boxed ((HO6.out.mono (fun q _ hq => .inl hq)).trans (hO7.mono (fun q _ hq => .inr hq))); clear hc7 hO7))
            all_goals
              go_wp2_with fail
              refine bodyPost_end (results_none rfl _ _ _) rfl ?_
              exact ⟨rfl, y1, y2, nr', ⟨by omega, by omega, .inl rfl⟩, HS7.out, by rw [HFL.out]; exact HC7.out, HX4.out, HO7.out⟩
    · obtain ⟨q, rfl⟩ : ∃ q, nr' = q + 1 := ⟨nr' - 1, by omega⟩
      have t1 : decide ((i : Int) < ((q : Int) + 1)) = true := decide_eq_true (by omega)
      have t2 : (i : Int) < ((q : Int) + 1) := by omega
      have hsh := short_any hPr hn hok c0 c1 k (q : Int)
      obtain ⟨hp, hhp⟩ : ∃ hp, hpl I n width k (q : Int) = hp := ⟨_, rfl⟩
      rw [hhp] at hsh
      have HHP := boxed hhp
      clear hhp hPr
      simp only [Int.natCast_add, Int.natCast_one] at c11
      go_wp2_with fail
      refine hsh.mono ?_
      rintro e' w2 ⟨rfl, hb2⟩
      have HS2 := boxed (HSr.out.below hb2)
      have HC2 : Box (w2.heap[cb]? = some (.cells (chA C) 206 (0, 0))) := boxed ((hb2.block cb (heap_lt HCr.out)).trans HCr.out)
      have HO2 := boxed (HOr.out.trans (Oth.of hb2))
      have HCL := boxed c11
      clear hb2 hsh c0 c1 c2 c9 c10 c11 c12 c13 f10 f11
      obtain ⟨⟨c0, c1, c2, c9, c10, c11, c12, c13⟩, f10, f11⟩ := HS2.out.c
      simp only [Int.natCast_add, Int.natCast_one] at c11
      cases hp
      · have HN : Box (∃ nr' : Nat, i ≤ nr' ∧ nr' ≤ nr0 ∧ SS B sb pb rb rc (nbk I n) width s (w2.setCell ⟨sb, 11, none⟩ (.int .i64 (q : Int))) (bd0 : Int) (nr' : Int) u1 u2 M1 M2 ∧ (w2.setCell ⟨sb, 11, none⟩ (.int .i64 (q : Int))).heap[cb]? = some (.cells (chA C) 206 (0, 0)) ∧ Oth (SX sb v1 v2) w (w2.setCell ⟨sb, 11, none⟩ (.int .i64 (q : Int)))) := boxed (by
          refine ⟨q, by omega, by omega, HS2.out.set _ (arr_set _ HS2.out.sr) (Oth.set (X := fun k => k = sb) (Oth.refl _ _) _ rfl), ?_, HO2.out.set _ (.inl rfl)⟩
          rw [Below.heap_setCell w2 ⟨sb, 11, none⟩ _ cb (fun e => HCX.out (.inl e))]
          exact HC2.out)
        have HM : Box (rdI sb 11 (w2.setCell ⟨sb, 11, none⟩ (.int .i64 (q : Int))) < rdI sb 11 wr) := boxed (by
          rw [rdI_eq (World.cell?_setCell_same w2 _ _ c11), rdI_eq HCL.out]; omega)
        have hq1 : -1 ≤ (q : Int) ∧ (q : Int) ≤ 262144 := by omega
        clear HS2 HC2 HO2 HSr HCr HOr
        go_wp2
        go_roundw
        case rel => exact HN
        case measure => exact HM.out
      · clear HSr HCr HOr
        have HSD := boxed (HS2.out.below (Below.refl _ _).drew)
        have HOD := boxed HO2.out.drew
        have HCD : Box (w2.drew.heap[cb]? = some (.cells (chA C) 206 (0, 0))) := HC2
        go_wp2_with fail
        go_region_with (first
          | (go_at_call 201; refine (leave1_any HSD.out hE1 ((q : Int) + 1)).mono ?_; rintro e' w3 ⟨rfl, y1, hS3, hx3, hO3⟩; have HS3 := boxed hS3; have HX3 := boxed (fun q (hq : q < w.heap.size) hx => HX1.out q hq (hx3 q hx)); have HO3 := boxed (HOD.out.trans2 hO3 HX1.out); have HC3 : Box (w3.heap[cb]? = some (.cells (chA C) 206 (0, 0))) := boxed ((hO3.block cb (heap_lt HCD.out) (fun hx => HCX.out (HX1.out cb hcs hx))).trans HCD.out); clear hS3 hx3 hO3))
        all_goals
          obtain ⟨⟨d0, -, -, -, -, d11, -, -⟩, -⟩ := HS3.out.c
          have HSE := boxed (HS3.out.below (Below.refl _ _).drew)
          have HOE := boxed HO3.out.drew
          have HCE : Box (w3.drew.heap[cb]? = some (.cells (chA C) 206 (0, 0))) := HC3
          simp only [Int.natCast_add, Int.natCast_one] at d11
          go_wp2_with fail
          go_region_with (first
            | (go_at_call 201; refine (leave2_any HSE.out hE2 ((q : Int) + 1)).mono ?_; rintro e' w4 ⟨rfl, y2, hS4, hx4, hO4⟩; have HS4 := boxed hS4; have HX4 := boxed (fun q (hq : q < w.heap.size) hx => HX3.out q hq (hx4 q hx)); have HO4 := boxed (HOE.out.trans2 hO4 HX3.out); have HC4 : Box (w4.heap[cb]? = some (.cells (chA C) 206 (0, 0))) := boxed ((hO4.block cb (heap_lt HCE.out) (fun hx => HCX.out (HX3.out cb hcs hx))).trans HCE.out); clear hS4 hx4 hO4))
          all_goals
            have HIT := item9_any (sb := sb) (HP.out w4 (SX_below HS0.out HO4.out)) hn HS4.out.c.1.1 k
            unfold Itm.val at HIT
            obtain ⟨fl, HFL⟩ : ∃ fl, (itb I n k).flag = fl := ⟨_, rfl⟩
            rw [HFL] at HIT
            replace HFL := boxed HFL
            have hfi := fldI
            go_wp2_with fail
            refine HIT.mono ?_
            rintro e' w5 ⟨rfl, hb5⟩
            have HS5 := boxed (HS4.out.below hb5)
            have HO5 := boxed (HO4.out.trans (Oth.of hb5))
            have HC5 : Box (w5.heap[cb]? = some (.cells (chA C) 206 (0, 0))) := boxed ((hb5.block cb (heap_lt HC4.out)).trans HC4.out)
            clear hb5 HIT
            cases fl
            · go_wp2_with (first
                | (go_at_call 203; refine (least_any HS5.out.c.1.2.2.2.2.2.2.1 HS5.out.w1 (Nat.le_trans (dw_len _ _) hE1)).mono ?_; rintro e' w6 ⟨x6, rfl, h60, h61, hb6⟩; have HS6 := boxed (HS5.out.below hb6); have HO6 := boxed (HO5.out.trans (Oth.of hb6)); have HC6 : Box (w6.heap[cb]? = some (.cells (chA C) 206 (0, 0))) := boxed ((hb6.block cb (heap_lt HC5.out)).trans HC5.out); have H60 := boxed h60; have H61 := boxed h61; clear hb6 h60 h61)
                | (go_at_call 202; refine (hop_any HC6.out hC _ x6 H60.out H61.out).mono ?_; rintro e' w7 ⟨rfl, hc7, hO7⟩; have HC7 := boxed hc7; have HS7 := boxed (HS6.out.oth hO7 (fun q hq hx => by rw [hq] at hx; exact HCX.out (HX4.out cb hcs hx))); have HO7 : Box (Oth (fun q => SX sb v1 v2 q ∨ q = cb) w w7) := boxed ((HO6.out.mono (fun q _ hq => .inl hq)).trans (hO7.mono (fun q _ hq => .inr hq))); clear hc7 hO7))
              all_goals
                go_wp2_with fail
                refine bodyPost_end (results_none rfl _ _ _) rfl ?_
                exact ⟨rfl, y1, y2, q + 1, ⟨by omega, by omega, .inr HHP.out⟩, HS7.out, by rw [HFL.out]; exact HC7.out, HX4.out, HO7.out⟩
            · go_wp2_with (first
                | (go_at_call 203; refine (least_any HS5.out.c.1.2.2.2.2.2.2.2 HS5.out.w2 (Nat.le_trans (dw_len _ _) hE2)).mono ?_; rintro e' w6 ⟨x6, rfl, h60, h61, hb6⟩; have HS6 := boxed (HS5.out.below hb6); have HO6 := boxed (HO5.out.trans (Oth.of hb6)); have HC6 : Box (w6.heap[cb]? = some (.cells (chA C) 206 (0, 0))) := boxed ((hb6.block cb (heap_lt HC5.out)).trans HC5.out); have H60 := boxed h60; have H61 := boxed h61; clear hb6 h60 h61)
                | (go_at_call 202; refine (hop_any HC6.out hC _ x6 H60.out H61.out).mono ?_; rintro e' w7 ⟨rfl, hc7, hO7⟩; have HC7 := boxed hc7; have HS7 := boxed (HS6.out.oth hO7 (fun q hq hx => by rw [hq] at hx; exact HCX.out (HX4.out cb hcs hx))); have HO7 : Box (Oth (fun q => SX sb v1 v2 q ∨ q = cb) w w7) := boxed ((HO6.out.mono (fun q _ hq => .inl hq)).trans (hO7.mono (fun q _ hq => .inr hq))); clear hc7 hO7))
              all_goals
                go_wp2_with fail
                refine bodyPost_end (results_none rfl _ _ _) rfl ?_
                exact ⟨rfl, y1, y2, q + 1, ⟨by omega, by omega, .inr HHP.out⟩, HS7.out, by rw [HFL.out]; exact HC7.out, HX4.out, HO7.out⟩
end
end Go.Proofs.YtcjcdpfjnomehaaGreat

/-
  A law of the walk: a scope with labels, jumped to and fro: what holds at a jump is what holds behind the label.
-/
namespace Go.Proofs.YtcjcdpfjnomehaaGreat
open Go.RowKit
set_option linter.unusedSimpArgs false
set_option linter.unusedVariables false
def Jumps (J : Nat → Act → World → Prop) (Q : Exit → Act → World → Prop) : Exit → Act → World → Prop
  | .goto l, a, w => J l a w
  | e, a, w => Q e a w
theorem jumps_ret (J : Nat → Act → World → Prop) (Q : Exit → Act → World → Prop) (a : Act) (w : World) : Jumps J Q .ret a w = Q .ret a w := rfl
theorem wp_scope_hops {P : Program} {c : Code} {Q : Exit → Act → World → Prop} {a : Act} {w : World}
    (h : ∀ J : Nat → Act → World → Prop, (∀ l rest a w, findLabel c l = some rest → rest.wp P (Jumps J Q) a w → J l a w) → c.wp P (Jumps J Q) a w) : (Code.scope c).wp P Q a w := by
  intro b k cs
  have glue : ∀ (l : Nat) (rest : Code) (a : Act) (w : World) (e : Exit) (a₁ : Act) (w₁ : World), findLabel c l = some rest →
      Jumps (fun l a w => ∃ rest, findLabel c l = some rest ∧ ∃ e a' w', Q e a' w' ∧ Arrives P (lone (b.at a (.code rest :: .inScope c :: k)) cs w) b k cs e a' w') Q e a₁ w₁ →
      Arrives P (lone (b.at a (.code rest :: .inScope c :: k)) cs w) b (.inScope c :: k) cs e a₁ w₁ →
      ∃ e a' w', Q e a' w' ∧ Arrives P (lone (b.at a (.code rest :: .inScope c :: k)) cs w) b k cs e a' w' := by
    intro l rest a w e a₁ w₁ hf hq harr
    cases e with
    | normal => exact ⟨.normal, a₁, w₁, hq, Steps.trans harr (.one step_inScope)⟩
    | exit id => exact ⟨.exit id, a₁, w₁, hq, fun k' hk => harr k' (by simp [exitTo, hk])⟩
    | goto l' =>
      obtain ⟨rest', hf', e₂, a₂, w₂, hq₂, harr₂⟩ := hq
      exact ⟨e₂, a₂, w₂, hq₂, .of_steps (harr _ (by simp [gotoIn, hf'])) harr₂⟩
    | ret => exact ⟨_, a₁, w₁, hq, harr⟩
    | panic ch => exact ⟨_, a₁, w₁, hq, harr⟩
    | outgrown => exact ⟨_, a₁, w₁, hq, harr⟩
  have hcl := h (fun l a w => ∃ rest, findLabel c l = some rest ∧ ∃ e a' w', Q e a' w' ∧ Arrives P (lone (b.at a (.code rest :: .inScope c :: k)) cs w) b k cs e a' w') ?_
  · obtain ⟨e, a₁, w₁, hq, harr⟩ := hcl b (.inScope c :: k) cs
    cases e with
    | normal => exact ⟨.normal, a₁, w₁, hq, .head step_scope (Steps.trans harr (.one step_inScope))⟩
    | exit id => exact ⟨.exit id, a₁, w₁, hq, fun k' hk => .head step_scope (harr k' (by simp [exitTo, hk]))⟩
    | goto l' =>
      obtain ⟨rest', hf', e₂, a₂, w₂, hq₂, harr₂⟩ := hq
      exact ⟨e₂, a₂, w₂, hq₂, .of_steps (.head step_scope (harr _ (by simp [gotoIn, hf']))) harr₂⟩
    | ret => exact ⟨_, a₁, w₁, hq, .of_steps (.one step_scope) harr⟩
    | panic ch => exact ⟨_, a₁, w₁, hq, .of_steps (.one step_scope) harr⟩
    | outgrown => exact ⟨_, a₁, w₁, hq, .of_steps (.one step_scope) harr⟩
  · intro l rest a w hf hw
    obtain ⟨e, a₁, w₁, hq, harr⟩ := hw b (.inScope c :: k) cs
    exact ⟨rest, hf, glue l rest a w e a₁ w₁ hf hq harr⟩
theorem jumps_normal (J : Nat → Act → World → Prop) (Q : Exit → Act → World → Prop) (a : Act) (w : World) : Jumps J Q .normal a w = Q .normal a w := rfl
end Go.Proofs.YtcjcdpfjnomehaaGreat

/-
  What the search's method hopeful does.
-/
namespace Go.Proofs.YtcjcdpfjnomehaaGreat
open Go.RowKit
set_option linter.unusedSimpArgs false
set_option linter.unusedVariables false
def RsAt (w : World) (rb m : Nat) (R : Nat → Nat → Int × Nat) : Prop := ∀ e c, e < m → c < 4 → w.cell? ⟨rb, e * 8 + c * 2, none⟩ = some (.int .i64 (R e c).1) ∧ w.cell? ⟨rb, e * 8 + c * 2 + 1, none⟩ = some (.int .i64 ((R e c).2 : Int))
theorem RsAt.keep {w w' : World} {rb m : Nat} {R : Nat → Nat → Int × Nat} (h : RsAt w rb m R) (hb : w'.heap[rb]? = w.heap[rb]?) : RsAt w' rb m R := fun e c he hc => by
  rw [World.cell?_of_block (w := w) (a := ⟨rb, _, none⟩) hb, World.cell?_of_block (w := w) (a := ⟨rb, _, none⟩) hb]
  exact h e c he hc
section
variable (I : Nat → Itm) (n : Nat) (width : Int) (s : Stg) (R : Nat → Nat → Int × Nat) (k : Int)
def vC (j : Nat) : Int := tt (cst s (ftb I n width k j) (itb I n j) (-1) (itb I n k).flag (decide (j + 1 = nbk I n))) (R j (ftb I n width k j).cls.toNat).1
def doz (j : Nat) : Bool := !(ftb I n width k j).over && decide ((ftb I n width k j).bad ≤ s.t)
def hst (j : Nat) (C : Nat → Ln) : Nat → Ln := if doz I n width s k j = true then tkC C ⟨j, ftb I n width k j, vC I n width s R k j⟩ (ftb I n width k j).cls.toNat else C
def hfu (nr : Nat) : Nat → (Nat → Ln) → Nat → Ln
  | 0, C => C
  | j + 1, C => if nr ≤ j then hst I n width s R k j (hfu nr j C) else C
theorem hfu_le (nr j : Nat) (h : j ≤ nr) (C : Nat → Ln) : hfu I n width s R k nr j C = C := by
  cases j with
  | zero => rfl
  | succ j => simp only [hfu]; rw [if_neg (by omega)]
theorem hfu_step (nr j : Nat) (h : nr ≤ j) (C : Nat → Ln) : hfu I n width s R k nr (j + 1) C = hst I n width s R k j (hfu I n width s R k nr j C) := by
  simp only [hfu]; rw [if_pos h]
end
section
variable {w : World} {B sb pb rb rc n cb : Nat} {I : Nat → Itm} {width : Int} {s : Stg} {bound near : Int} {v1 v2 : Value} {L1 L2 : List (Nat × Int)} {C : Nat → Ln} {R : Nat → Nat → Int × Nat}
set_option maxRecDepth 100000 in
set_option maxHeartbeats 8000000 in
theorem hopeful_any (h : ParaAt (fun b => b < B) w pb n I) (hn : n ≤ 262144) (hok : ∀ i, i < n → okI I i = true) (hw : 1 ≤ width ∧ width ≤ 1073741824) (nr bd : Nat) (k : Int) (hss : SS B sb pb rb rc (nbk I n) width s w (bd : Int) (nr : Int) v1 v2 L1 L2) (hnr : nr ≤ bd) (hbd : bd ≤ nbk I n) (hr : RsAt w rb (nbk I n) R)
    (hc : w.heap[cb]? = some (.cells (chA C) 206 (0, 0))) (hcx : ¬ SX sb v1 v2 cb) (hcr : cb ≠ rb) (hcB : B ≤ cb) :
    Calls Tryz.prog 174 #[.pointer (some ⟨sb, 0, none⟩), .int .i64 k, .pointer (some ⟨cb, 0, none⟩)] w fun e' w' => e' = .returned (.tuple #[]) ∧ (∃ st, (nr ≤ st ∧ st ≤ bd ∧ (st = bd ∨ width < (upt I n (bk I n k) (bk I n st)).w - (upt I n (bk I n k) (bk I n st)).sh)) ∧
      w'.heap[cb]? = some (.cells (chA (hfu I n width s R k nr st C)) 206 (0, 0))) ∧ Oth (fun q => q = cb) w w' := by
  have hm : nbk I n ≤ 262144 := by unfold nbk; have := lgs_len I n n; omega
  have HA := ahead_any (sb := sb) h hn hss.c.1.1 k (-1)
  have HP : Box (∀ W, Oth (fun q => q = cb) w W → ParaAt (fun b => b < B) W pb n I ∧ SS B sb pb rb rc (nbk I n) width s W (bd : Int) (nr : Int) v1 v2 L1 L2 ∧ RsAt W rb (nbk I n) R) := boxed (fun W hO => ⟨h.keep (kp_lt (hO.below (fun q hq => by rw [hq]; exact hcB) (by have := hss.hs; omega))), hss.oth hO (fun q hq hx => hcx (by rw [← hq]; exact hx)), hr.keep (hO.block rb hss.hs.2.2.2.2 (fun e => hcr e.symm))⟩)
  have HC0 := boxed hc
  have hcs := heap_lt hc
  obtain ⟨fl, hfl⟩ : ∃ fl, (itb I n k).flag = fl := ⟨_, rfl⟩
  have HFL := boxed hfl
  unfold aheV at HA
  rw [hfl] at HA
  clear hc hss h hr hfl hcx
  go_enter Tryz.func174, Tryz.ntmps174
  refine wp_scope_hops (fun J hJ => ?_)
  go_wp2_with fail
  refine HA.mono ?_
  rintro e' w1 ⟨rfl, hb1⟩
  have HO1 := boxed (Oth.of (X := fun q => q = cb) hb1)
  have HC1 : Box (w1.heap[cb]? = some (.cells (chA C) 206 (0, 0))) := boxed ((hb1.block cb hcs).trans HC0.out)
  obtain ⟨⟨c0, c1, c2, c9, c10, c11, c12, c13⟩, f10, f11⟩ := (HP.out _ HO1.out).2.1.c
  have q1 : sb < w1.heap.size := World.block_lt_of_cell? w1 _ c0
  clear hb1 HA
  go_wp2_with fail
  refine wp_label ?_
  obtain ⟨wA, hwA⟩ : ∃ wA, w1.alloc (.cells #[.int .i64 (-1), .bool fl] 213) = wA := ⟨_, rfl⟩
  have hbA : Below w1.heap.size w1 wA := by rw [← hwA]; exact (Below.refl _ _).alloc (Nat.le_refl _) _
  have HEA : Box (wA.heap[w1.heap.size]? = some (.cells #[.int .i64 (-1), .bool fl] 213 (0, 0))) := boxed (by rw [← hwA]; exact heap_alloc_new w1 _)
  rw [hwA]
  obtain ⟨AB, hAB⟩ : ∃ AB, w1.heap.size = AB := ⟨_, rfl⟩
  have HOA := boxed (HO1.out.trans (Oth.of hbA))
  have HCA : Box (wA.heap[cb]? = some (.cells (chA C) 206 (0, 0))) := boxed ((hbA.block cb (heap_lt HC1.out)).trans HC1.out)
  have hAc : AB ≠ cb := by rw [← hAB]; have := heap_lt HC1.out; omega
  rw [hAB] at HEA ⊢
  clear hbA hwA HC1 HO1 c0 c1 c2 c9 c10 c11 c12 c13 f10 f11 q1
  clear hAB
  obtain ⟨⟨c0, c1, c2, c9, c10, c11, c12, c13⟩, f10, f11⟩ := (HP.out _ HOA.out).2.1.c
  go_wp2_with fail
  clear c0 c1 c2 c9 c10 c11 c12 c13 f10 f11
  go_loopw [7] (fun ev wr => ∃ j : Nat, nr ≤ j ∧ j ≤ bd ∧ ev = .int .i64 (j : Int) ∧ Box (wr.heap[cb]? = some (.cells (chA (hfu I n width s R k nr j C)) 206 (0, 0)) ∧ wr.heap[AB]? = some (.cells #[.int .i64 (-1), .bool fl] 213 (0, 0)) ∧ Oth (fun q => q = cb) w wr)) (fun ev _ => bd - (intOf ev).toNat)
  case atStart => exact ⟨nr, Nat.le_refl _, hnr, rfl, boxed ⟨by rw [hfu_le I n width s R k nr nr (Nat.le_refl _) C]; exact HCA.out, HEA.out, HOA.out⟩⟩
  case round =>
    obtain ⟨j, hj1, hj2, rfl, HR⟩ := hrel
    obtain ⟨hcr', har, hOr⟩ := HR.out
    obtain ⟨hPr, hSr, hRr⟩ := HP.out _ hOr
    obtain ⟨⟨c0, c1, c2, c9, c10, c11, c12, c13⟩, f10, f11⟩ := hSr.c
    by_cases hlt : j < bd
    · have t1 : decide ((j : Int) < (bd : Int)) = true := decide_eq_true (by omega)
      have hfi := fit9_any hPr hn hok hw c0 c1 k (j : Int)
      have HL1 := boxed (hfu_step I n width s R k nr j hj1 C)
      have hcl := ftb_cls I n width k (j : Int)
      obtain ⟨f0, f1, f2, f3, f4, hF⟩ : ∃ a b c d e, ftb I n width k (j : Int) = ⟨a, b, c, d, e⟩ := ⟨_, _, _, _, _, rfl⟩
      have HF := boxed hF
      rw [hF] at hfi hcl
      simp only at hcl
      obtain ⟨c, rfl⟩ : ∃ c : Nat, f3 = (c : Int) := ⟨f3.toNat, by omega⟩
      have hc4 : c < 4 := by omega
      unfold Ft.val at hfi
      simp only at hfi
      have HRr := boxed hRr
      have HCr := boxed hcr'
      have HAr := boxed har
      have HOr := boxed hOr
      clear hF hcr' har hOr hPr hSr hRr HR c0 c1 c2 c9 c11 c12 c13 f10 f11
      have q0 := heap_lt HCr.out
      have q1 := heap_lt HAr.out
      go_wp2_with fail
      refine hfi.mono ?_
      rintro e' w2 ⟨rfl, hb2⟩
      obtain ⟨wF, hwF⟩ : ∃ wF, w2.alloc (.cells #[.int .i64 f0, .int .i64 f1, .int .i64 f2, .int .i64 (c : Int), .bool f4] 105) = wF := ⟨_, rfl⟩
      obtain ⟨FB, hFB⟩ : ∃ FB, w2.heap.size = FB := ⟨_, rfl⟩
      have hbF : Below wr.heap.size wr wF := by rw [← hwF]; exact hb2.alloc hb2.size _
      have heF : wF.heap[FB]? = some (.cells #[.int .i64 f0, .int .i64 f1, .int .i64 f2, .int .i64 (c : Int), .bool f4] 105 (0, 0)) := by rw [← hwF, ← hFB]; exact heap_alloc_new w2 _
      have hz : wr.heap.size ≤ FB := by rw [← hFB]; exact hb2.size
      have HBF := boxed hbF
      have HEF := boxed heF
      have HK : Box (∀ W, Below wF.heap.size wF W → (W.heap[FB]? = some (.cells #[.int .i64 f0, .int .i64 f1, .int .i64 f2, .int .i64 (c : Int), .bool f4] 105 (0, 0)) ∧ W.heap[AB]? = some (.cells #[.int .i64 (-1), .bool fl] 213 (0, 0)) ∧ W.heap[cb]? = some (.cells (chA (hfu I n width s R k nr j C)) 206 (0, 0)) ∧ Oth (fun q => q = cb) w W)) := boxed (fun W hb =>
        ⟨(hb.block FB (heap_lt heF)).trans heF, (hb.block AB (by have := hbF.size; omega)).trans ((hbF.block AB q1).trans HAr.out), (hb.block cb (by have := hbF.size; omega)).trans ((hbF.block cb q0).trans HCr.out), (HOr.out.trans (Oth.of hbF)).trans (Oth.of hb)⟩)
      have HY : Box (∀ W : World, W.heap[FB]? = some (.cells #[.int .i64 f0, .int .i64 f1, .int .i64 f2, .int .i64 (c : Int), .bool f4] 105 (0, 0)) → W.heap[AB]? = some (.cells #[.int .i64 (-1), .bool fl] 213 (0, 0)) → W.cell? ⟨FB, 0, none⟩ = some (.int .i64 f0) ∧ W.cell? ⟨FB, 1, none⟩ = some (.int .i64 f1) ∧ W.cell? ⟨FB, 2, none⟩ = some (.int .i64 f2) ∧ W.cell? ⟨FB, 3, none⟩ = some (.int .i64 (c : Int)) ∧ W.cell? ⟨FB, 4, none⟩ = some (.bool f4) ∧ W.cell? ⟨AB, 0, none⟩ = some (.int .i64 (-1)) ∧ W.cell? ⟨AB, 1, none⟩ = some (.bool fl)) := boxed (fun W h1 h2 => ⟨row_cell h1 0 _ rfl, row_cell h1 1 _ rfl, row_cell h1 2 _ rfl, row_cell h1 3 _ rfl, row_cell h1 4 _ rfl, row_cell h2 0 _ rfl, row_cell h2 1 _ rfl⟩)
      have HD : Box (Below wF.heap.size wF wF.drew) := boxed (Below.refl _ _).drew
      have HX1 : Box (∀ W, Below wF.heap.size wF W → W.cell? ⟨sb, 1, none⟩ = some (.int .i64 width)) := boxed (fun W hb => (HP.out _ (HK.out _ hb).2.2.2).2.1.c.1.2.1)
      have HNR : Box (∀ W, Below wF.heap.size wF W → Calls Tryz.prog 204 #[.pointer (some ⟨sb, 0, none⟩), .int .i64 k, .int .i64 (j : Int)] W fun e w' => e = .returned (.int .i64 ((upt I n (bk I n k) (bk I n (j : Int))).w - (upt I n (bk I n k) (bk I n (j : Int))).sh)) ∧ Below W.heap.size W w') := boxed (fun W hb => narrowest_any (HP.out _ (HK.out _ hb).2.2.2).1 hn hok (HP.out _ (HK.out _ hb).2.2.2).2.1.c.1.1 k (j : Int))
      have HLO : Box (∀ lo, (upt I n (bk I n k) (bk I n (j : Int))).w - (upt I n (bk I n k) (bk I n (j : Int))).sh = lo → width < lo → width < (upt I n (bk I n k) (bk I n (j : Int))).w - (upt I n (bk I n k) (bk I n (j : Int))).sh) := boxed (fun lo e h => by rw [e]; exact h)
      obtain ⟨lo, hlo⟩ : ∃ lo, (upt I n (bk I n k) (bk I n (j : Int))).w - (upt I n (bk I n k) (bk I n (j : Int))).sh = lo := ⟨_, rfl⟩
      rw [hlo] at HNR
      replace HLO := boxed (HLO.out lo hlo)
      clear hb2 hbF heF hlo hfi
      go_wp2_with fail
      try rw [hwF]
      clear hwF
      go_region_held3 (fun W => W.cell? ⟨sb, 1, none⟩ = some (.int .i64 width))
        (first | with_reducible exact HX1.out _ HD.out | with_reducible exact HX1.out _ HB3.out)
        (first
          | (go_at_call 204; refine (HNR.out _ HD.out).mono ?_; rintro e' w3 ⟨rfl, hb3⟩; have HB3 := boxed (below_step HD.out (Nat.le_refl _) hb3); clear hb3))
      obtain ⟨k1, k2, k3, k4⟩ := HK.out _ HB3.out
      obtain ⟨x0, x1, x2, x3, x4, x5, x6⟩ := HY.out _ k1 k2
      have c2 := (HP.out _ k4).2.1.c.1.2.2.1
      clear k1 k2 k3 k4
      by_cases hov : width < lo
      · have t2 : decide (width < lo) = true := decide_eq_true hov
        go_wp2_with fail
        rw [jumps_normal]
        refine bodyPost_end (results_none rfl _ _ _) rfl ?_
        exact ⟨rfl, ⟨j, ⟨hj1, by omega, .inr (HLO.out hov)⟩, (HK.out _ HB3.out).2.2.1⟩, (HK.out _ HB3.out).2.2.2⟩
      · have t2 : decide (width < lo) = false := decide_eq_false hov
        cases f4
        rotate_left
        · go_wp2_with fail
          go_quiet (fail)
          go_wp2_with fail
          go_roundw
          case rel => exact ⟨j + 1, by omega, by omega, by go_num, boxed (by
            obtain ⟨k1, k2, k3, k4⟩ := HK.out _ (HB3.out.trans (bel_drewN _ _ _))
            refine ⟨?_, k2, k4⟩
            rw [HL1.out, show hst I n width s R k j (hfu I n width s R k nr j C) = hfu I n width s R k nr j C from if_neg (by unfold doz; rw [HF.out]; simp)]
            exact k3)⟩
          case measure => simp [intOf]; omega
        by_cases hbt : f2 ≤ s.t
        rotate_left
        · have t3 : decide (s.t < f2) = true := decide_eq_true (by omega)
          go_wp2_with fail
          go_quiet (fail)
          go_wp2_with fail
          go_roundw
          case rel => exact ⟨j + 1, by omega, by omega, by go_num, boxed (by
            obtain ⟨k1, k2, k3, k4⟩ := HK.out _ (HB3.out.trans (bel_drewN _ _ _))
            refine ⟨?_, k2, k4⟩
            rw [HL1.out, show hst I n width s R k j (hfu I n width s R k nr j C) = hfu I n width s R k nr j C from if_neg (by unfold doz; rw [HF.out]; simp; omega)]
            exact k3)⟩
          case measure => simp [intOf]; omega
        have t3 : decide (s.t < f2) = false := decide_eq_false (by omega)
        go_wp2_with fail
        go_quiet (fail)
        go_wp2_with fail
        obtain ⟨W, hW⟩ : ∃ W, w3.drewN nq = W := ⟨_, rfl⟩
        rw [hW]
        have HBW : Box (Below wF.heap.size wF W) := boxed (by rw [← hW]; exact HB3.out.trans (bel_drewN _ _ _))
        clear hW HB3 HNR HX1 c2 x0 x1 x2 x3 x4 x5 x6
        have HBD : Box (Below wF.heap.size wF W.drew) := boxed HBW.out.drew
        have HCO : Box (∀ W, Below wF.heap.size wF W → Calls Tryz.prog 175 #[.pointer (some ⟨sb, 0, none⟩), .agg #[.int .i64 f0, .int .i64 f1, .int .i64 f2, .int .i64 (c : Int), .bool false], .int .i64 (j : Int), .agg #[.int .i64 (-1), .bool fl]] W fun e' w' => e' = .returned (.int .i64 (vC I n width s R k j)) ∧ Below W.heap.size W w') := boxed (fun W hb => by
          obtain ⟨kP, kS, kR⟩ := HP.out _ (HK.out _ hb).2.2.2
          have hv : vC I n width s R k j = tt (cst s ⟨f0, f1, f2, (c : Int), false⟩ (itb I n j) (-1) fl (decide (j + 1 = nbk I n))) (R j c).1 := by unfold vC; rw [HF.out, HFL.out]; simp
          rw [hv]
          exact cost9_any kP hn kS.sr j c (by omega) hc4 _ (kR j c (by omega) hc4).1 f0 f1 f2 false (-1) (by omega) fl)
        have HH : Box (hfu I n width s R k nr (j + 1) C = tkC (hfu I n width s R k nr j C) ⟨j, ⟨f0, f1, f2, (c : Int), false⟩, vC I n width s R k j⟩ c) := boxed (by
          rw [HL1.out]
          unfold hst
          rw [if_pos (by unfold doz; rw [HF.out]; simp [hbt]), HF.out]
          simp)
        have e7 : (⟨j, ⟨f0, f1, f2, (c : Int), false⟩, vC I n width s R k j⟩ : Ln).cells = [.int .i64 (j : Int), .int .i64 f0, .int .i64 f1, .int .i64 f2, .int .i64 (c : Int), .bool false, .int .i64 (vC I n width s R k j)] := rfl
        have HTK : Box (∀ W, Below wF.heap.size wF W → Calls Tryz.prog 202 #[.pointer (some ⟨cb, 0, none⟩), .agg #[.int .i64 (j : Int), .int .i64 f0, .int .i64 f1, .int .i64 f2, .int .i64 (c : Int), .bool false, .int .i64 (vC I n width s R k j)]] W fun e w' => e = .returned (.tuple #[]) ∧ w'.heap[cb]? = some (.cells (chA (hfu I n width s R k nr (j + 1) C)) 206 (0, 0)) ∧ Oth (fun b => b = cb) W w') := boxed (fun W hb => by
          have := take_any (x := ⟨j, ⟨f0, f1, f2, (c : Int), false⟩, vC I n width s R k j⟩) (k := c) (HK.out _ hb).2.2.1 hc4 rfl
          rw [← HH.out, e7] at this
          exact this)
        have hFc : FB ≠ cb := by omega
        clear HH HL1 HF e7
        generalize vC I n width s R k j = V at *
        go_region_held3 (fun W => W.cell? ⟨FB, 0, none⟩ = some (.int .i64 f0) ∧ W.cell? ⟨FB, 1, none⟩ = some (.int .i64 f1) ∧ W.cell? ⟨FB, 2, none⟩ = some (.int .i64 f2) ∧ W.cell? ⟨FB, 3, none⟩ = some (.int .i64 (c : Int)) ∧ W.cell? ⟨FB, 4, none⟩ = some (.bool false) ∧ W.cell? ⟨AB, 0, none⟩ = some (.int .i64 (-1)) ∧ W.cell? ⟨AB, 1, none⟩ = some (.bool fl))
          (first | with_reducible exact HY.out _ (HK.out _ HBD.out).1 (HK.out _ HBD.out).2.1 | with_reducible exact HY.out _ (HK.out _ HB5.out).1 (HK.out _ HB5.out).2.1 | with_reducible exact HXf.out)
          (first
            | (go_at_call 175; with_reducible refine (HCO.out _ HBD.out).mono ?_; rintro e' w5 ⟨rfl, hb5⟩; have HB5 := boxed (below_step HBD.out (Nat.le_refl _) hb5); clear hb5)
            | (go_at_call 202; with_reducible refine (HTK.out _ HB5.out).mono ?_; rintro e' w6 ⟨rfl, hc6, hO6⟩; have HC6 := boxed hc6; have HA6 := boxed ((hO6.block AB (heap_lt (HK.out _ HB5.out).2.1) hAc).trans (HK.out _ HB5.out).2.1); have HXf := boxed (HY.out w6 ((hO6.block FB (heap_lt (HK.out _ HB5.out).1) hFc).trans (HK.out _ HB5.out).1) HA6.out); have HO6 := boxed ((HK.out _ HB5.out).2.2.2.trans hO6); clear hc6 hO6))
        go_wp2_with fail
        go_roundw
        case rel => exact ⟨j + 1, by omega, by omega, by go_num, boxed ⟨HC6.out, HA6.out, HO6.out⟩⟩
        case measure => simp [intOf]; omega
    · obtain rfl : j = bd := by omega
      have t1 : decide ((j : Int) < (j : Int)) = false := by simp
      clear hcr' har hOr hPr hSr hRr
      go_wp2_with fail
      rw [jumps_normal]
      refine bodyPost_end (results_none rfl _ _ _) rfl ?_
      exact ⟨rfl, ⟨j, ⟨hj1, Nat.le_refl _, .inl rfl⟩, HR.out.1⟩, HR.out.2.2⟩
end
end Go.Proofs.YtcjcdpfjnomehaaGreat

/-
  What the search's method cheapest answers.
-/
namespace Go.Proofs.YtcjcdpfjnomehaaGreat
open Go.RowKit
set_option linter.unusedSimpArgs false
set_option linter.unusedVariables false
section
variable (I : Nat → Itm) (n : Nat) (s : Stg) (R : Nat → Nat → Int × Nat) (C : Nat → Ln) (a : Int) (fl : Bool)
def cq (k : Nat) : Int := tt (cst s (C k).f (itb I n (C k).e) a fl (decide ((C k).e + 1 = (nbk I n : Int)))) (R (C k).e.toNat (C k).f.cls.toNat).1
def chp : Nat → Int × Int
  | 0 => (Awf, 0)
  | k + 1 => if (C k).c = Awf then chp k else if cq I n s R C a fl k < (chp k).1 ∨ (cq I n s R C a fl k = (chp k).1 ∧ (C k).e < (chp k).2) then (cq I n s R C a fl k, (C k).e) else chp k
end
theorem laid4 (w : World) (A B C D : Obj) : ((((w.alloc A).alloc B).alloc C).alloc D).heap[w.heap.size]? = some A ∧ ((((w.alloc A).alloc B).alloc C).alloc D).heap[w.heap.size + 1]? = some B ∧ ((((w.alloc A).alloc B).alloc C).alloc D).heap[w.heap.size + 1 + 1]? = some C ∧ ((((w.alloc A).alloc B).alloc C).alloc D).heap[w.heap.size + 1 + 1 + 1]? = some D ∧ Below w.heap.size w ((((w.alloc A).alloc B).alloc C).alloc D) := by
  obtain ⟨a1, a2, a3, a4⟩ := laid2 w A B
  obtain ⟨b1, b2, b3, b4⟩ := laid2 ((w.alloc A).alloc B) C D
  rw [a4] at b1 b2 b3
  refine ⟨?_, ?_, b1, b2, a3.trans (b3.mono (by omega))⟩
  · rw [b3.block _ (by omega)]; exact a1
  · rw [b3.block _ (by omega)]; exact a2
theorem idx_choice (C : Nat → Ln) (k : Nat) (hk : k < 4) (W : World) : (Instr.index 206 (.agg (chA C)) (.int .i64 (k : Int))).run Tryz.prog W = .ok (.agg (C k).cells.toArray) W := by
  rcases (show k = 0 ∨ k = 1 ∨ k = 2 ∨ k = 3 by omega) with rfl | rfl | rfl | rfl <;> kernel_rfl
section
variable {w : World} {B sb pb rb rc n : Nat} {I : Nat → Itm} {width : Int} {s : Stg} {bound near : Int} {v1 v2 : Value} {L1 L2 : List (Nat × Int)} {C : Nat → Ln} {R : Nat → Nat → Int × Nat}
set_option maxRecDepth 100000 in
set_option maxHeartbeats 8000000 in
theorem cheapest_any (h : ParaAt (fun b => b < B) w pb n I) (hn : n ≤ 262144) (hss : SS B sb pb rb rc (nbk I n) width s w bound near v1 v2 L1 L2) (hr : RsAt w rb (nbk I n) R)
    (hC : ∀ k, k < 4 → (C k).c ≠ Awf → (0 ≤ (C k).e ∧ (C k).e < (nbk I n : Int)) ∧ 0 ≤ (C k).f.cls ∧ (C k).f.cls < 4) (a : Int) (ha : -1000 ≤ a ∧ a ≤ 1000) (fl : Bool) :
    Calls Tryz.prog 140 #[.pointer (some ⟨sb, 0, none⟩), .agg (chA C), .agg #[.int .i64 a, .bool fl]] w fun e' w' => e' = .returned (.agg #[.int .i64 (chp I n s R C a fl 4).1, .int .i64 (chp I n s R C a fl 4).2]) ∧ Below w.heap.size w w' := by
  have hm : nbk I n ≤ 262144 := by unfold nbk; have := lgs_len I n n; omega
  have hsz := choice_size C
  obtain ⟨A, hA⟩ : ∃ A, chA C = A := ⟨_, rfl⟩
  rw [hA] at hsz ⊢
  have hl4 := laid4 w (.cells A 206) (.cells #[.int .i64 a, .bool fl] 213) (.cells #[.int .i64 0, .int .i64 0] 209) (.cells #[.int .i64 1125899906842624, .int .i64 0] 209)
  have HL := boxed hl4
  have HIX := boxed (fun k hk W => idx_choice C k hk W)
  rw [hA] at HIX
  have HP : Box (∀ W, Below w.heap.size w W → ParaAt (fun b => b < B) W pb n I ∧ SS B sb pb rb rc (nbk I n) width s W bound near v1 v2 L1 L2 ∧ RsAt W rb (nbk I n) R) := boxed (fun W hb => ⟨h.keep (kp_lt (hb.mono (by have := hss.hs; omega))), hss.below hb, hr.keep (hb.block rb hss.hs.2.2.2.2)⟩)
  clear hl4 h hss hr
  go_enter Tryz.func140, Tryz.ntmps140
  go_wp2_with (first | (refine wpList_load_row rfl 206 _ rfl w.heap.size rfl 206 A (0, 0) _ HL.out.1 Tryz.underlying206 rfl hsz ?_))
  obtain ⟨w4, hw4⟩ : ∃ w4, (((w.alloc (.cells A 206)).alloc (.cells #[.int .i64 a, .bool fl] 213)).alloc (.cells #[.int .i64 0, .int .i64 0] 209)).alloc (.cells #[.int .i64 1125899906842624, .int .i64 0] 209) = w4 := ⟨_, rfl⟩
  have HL2 := boxed HL.out.2
  rw [hw4] at HL2
  rw [hw4]
  clear HL hw4 hA
  go_loopw [13] (fun kv wr => ∃ k : Nat, k ≤ 4 ∧ kv = .int .i64 (k : Int) ∧ Box (wr.heap[w.heap.size + 1]? = some (.cells #[.int .i64 a, .bool fl] 213 (0, 0)) ∧ wr.heap[w.heap.size + 1 + 1]? = some (.cells #[.int .i64 0, .int .i64 0] 209 (0, 0)) ∧ wr.heap[w.heap.size + 1 + 1 + 1]? = some (.cells #[.int .i64 (chp I n s R C a fl k).1, .int .i64 (chp I n s R C a fl k).2] 209 (0, 0)) ∧ Below w.heap.size w wr)) (fun kv _ => 4 - (intOf kv).toNat)
  case atStart => exact ⟨0, by omega, rfl, HL2⟩
  case round =>
    obtain ⟨k, hk, rfl, HR⟩ := hrel
    obtain ⟨e1, e2, e3, hb⟩ := HR.out
    have z1 := heap_lt e1
    have z2 := heap_lt e2
    have z3 := heap_lt e3
    by_cases hlt : k < 4
    · have t1 : decide ((k : Int) < 4) = true := decide_eq_true (by omega)
      have hix := HIX.out k hlt
      unfold Ln.cells at hix
      have HCk := boxed (hC k hlt)
      obtain ⟨x, hx⟩ : ∃ x, C k = x := ⟨_, rfl⟩
      rw [hx] at hix HCk
      obtain ⟨b0, b1, hbest⟩ : ∃ b0 b1, chp I n s R C a fl k = (b0, b1) := ⟨_, _, rfl⟩
      have HB := boxed hbest
      have HX := boxed hx
      rw [hbest] at e3
      simp only at e3
      obtain ⟨⟨a0, a1⟩, -⟩ := cells2 e1
      obtain ⟨⟨g0, g1⟩, y0, y1⟩ := cells2 e3
      have E1 := boxed e1
      have E2 := boxed e2
      have E3 := boxed e3
      have HBr := boxed hb
      clear e1 e2 e3 hb hbest hx HR
      obtain ⟨x1, ⟨x2, x3, x4, x5, x6⟩, x7⟩ := x
      simp only at hix HCk
      have n1 : w.heap.size + 1 ≠ wr.heap.size := by omega
      have n2 : w.heap.size + 1 + 1 ≠ wr.heap.size := by omega
      have n3 : w.heap.size + 1 + 1 + 1 ≠ wr.heap.size := by omega
      have HS0 : Box (chp I n s R C a fl (k + 1) = if (C k).c = Awf then chp I n s R C a fl k else if cq I n s R C a fl k < (chp I n s R C a fl k).1 ∨ (cq I n s R C a fl k = (chp I n s R C a fl k).1 ∧ (C k).e < (chp I n s R C a fl k).2) then (cq I n s R C a fl k, (C k).e) else chp I n s R C a fl k) := boxed rfl
      by_cases hA : x7 = 1125899906842624
      · have d1 : (x7 == 1125899906842624) = true := by simp [hA]
        have HW : Box (∀ o, (wr.alloc o).heap[w.heap.size + 1]? = some (.cells #[.int .i64 a, .bool fl] 213 (0, 0)) ∧ (wr.alloc o).heap[w.heap.size + 1 + 1]? = some (.cells #[.int .i64 0, .int .i64 0] 209 (0, 0)) ∧ (wr.alloc o).heap[w.heap.size + 1 + 1 + 1]? = some (.cells #[.int .i64 (chp I n s R C a fl (k + 1)).1, .int .i64 (chp I n s R C a fl (k + 1)).2] 209 (0, 0)) ∧ Below w.heap.size w (wr.alloc o)) := boxed (fun o => by
          refine ⟨(Below.heap_alloc _ _ _ z1).trans E1.out, (Below.heap_alloc _ _ _ z2).trans E2.out, (Below.heap_alloc _ _ _ z3).trans ?_, HBr.out.alloc HBr.out.size _⟩
          rw [HS0.out, if_pos (by rw [HX.out]; exact hA), HB.out]
          exact E3.out)
        clear HS0
        go_wp2_with fail
        go_roundw
        case rel => exact ⟨k + 1, by omega, by go_num, boxed (HW.out _)⟩
        case measure => simp [intOf]; omega
      · have d1 : (x7 == 1125899906842624) = false := by simp [hA]
        obtain ⟨⟨r1, r2⟩, r3, r4⟩ := HCk.out hA
        obtain ⟨j, rfl⟩ : ∃ j : Nat, x1 = (j : Int) := ⟨x1.toNat, by omega⟩
        obtain ⟨c, rfl⟩ : ∃ c : Nat, x5 = (c : Int) := ⟨x5.toNat, by omega⟩
        have hj : j < nbk I n := by omega
        have hc4 : c < 4 := by omega
        obtain ⟨q, hq⟩ : ∃ q, cq I n s R C a fl k = q := ⟨_, rfl⟩
        have hq2 : tt (cst s ⟨x2, x3, x4, (c : Int), x6⟩ (itb I n (j : Int)) a fl (decide (j + 1 = nbk I n))) (R j c).1 = q := by
          rw [← hq]
          unfold cq
          rw [HX.out]
          simp only [Int.toNat_natCast]
          congr 2
          rw [Bool.eq_iff_iff]; simp; omega
        have HST : Box (chp I n s R C a fl (k + 1) = if q < b0 ∨ (q = b0 ∧ (j : Int) < b1) then (q, (j : Int)) else (b0, b1)) := boxed (by rw [HS0.out, if_neg (by rw [HX.out]; exact hA), HB.out, hq, HX.out])
        have HCO : Box (∀ W, Below w.heap.size w W → Calls Tryz.prog 175 #[.pointer (some ⟨sb, 0, none⟩), .agg #[.int .i64 x2, .int .i64 x3, .int .i64 x4, .int .i64 (c : Int), .bool x6], .int .i64 (j : Int), .agg #[.int .i64 a, .bool fl]] W fun e' w' => e' = .returned (.int .i64 q) ∧ Below W.heap.size W w') := boxed (fun W hb => by
          obtain ⟨kP, kS, kR⟩ := HP.out _ hb
          rw [← hq2]
          exact cost9_any kP hn kS.sr j c hj hc4 _ (kR j c hj hc4).1 x2 x3 x4 x6 a ha fl)
        have HK : Box (∀ W, Below (wr.alloc (.cells #[.int .i64 (j : Int), .int .i64 x2, .int .i64 x3, .int .i64 x4, .int .i64 (c : Int), .bool x6, .int .i64 x7] 204)).heap.size (wr.alloc (.cells #[.int .i64 (j : Int), .int .i64 x2, .int .i64 x3, .int .i64 x4, .int .i64 (c : Int), .bool x6, .int .i64 x7] 204)) W → W.heap[w.heap.size + 1]? = some (.cells #[.int .i64 a, .bool fl] 213 (0, 0)) ∧ W.heap[w.heap.size + 1 + 1]? = some (.cells #[.int .i64 0, .int .i64 0] 209 (0, 0)) ∧ W.heap[w.heap.size + 1 + 1 + 1]? = some (.cells #[.int .i64 b0, .int .i64 b1] 209 (0, 0)) ∧ W.heap[wr.heap.size]? = some (.cells #[.int .i64 (j : Int), .int .i64 x2, .int .i64 x3, .int .i64 x4, .int .i64 (c : Int), .bool x6, .int .i64 x7] 204 (0, 0)) ∧ Below w.heap.size w W) := boxed (fun W hb => by
          have hzz : (wr.alloc (.cells #[.int .i64 (j : Int), .int .i64 x2, .int .i64 x3, .int .i64 x4, .int .i64 (c : Int), .bool x6, .int .i64 x7] 204)).heap.size = wr.heap.size + 1 := by simp
          rw [hzz] at hb
          refine ⟨?_, ?_, ?_, ?_, (HBr.out.alloc HBr.out.size _).trans (hb.mono (by have := HBr.out.size; omega))⟩
          · rw [hb.block _ (by omega)]; exact (Below.heap_alloc _ _ _ z1).trans E1.out
          · rw [hb.block _ (by omega)]; exact (Below.heap_alloc _ _ _ z2).trans E2.out
          · rw [hb.block _ (by omega)]; exact (Below.heap_alloc _ _ _ z3).trans E3.out
          · rw [hb.block _ (by omega)]; exact heap_alloc_new wr _)
        clear HS0 hq hq2 hix E1 E2 E3
        have hix := HIX.out k hlt
        unfold Ln.cells at hix
        rw [HX.out] at hix
        simp only at hix
        go_wp2_with fail
        refine (HCO.out _ (HBr.out.alloc HBr.out.size _)).mono ?_
        rintro e' w5 ⟨rfl, hb5⟩
        have HB5 := boxed hb5
        clear hb5 HCO a0 a1 g0 g1 y0 y1
        obtain ⟨⟨g0, g1⟩, y0, y1⟩ := cells2 (HK.out _ HB5.out).2.2.1
        obtain ⟨⟨p0, -, -, -, -, -, p6⟩, -⟩ := cells7 (HK.out _ HB5.out).2.2.2.1
        have m1 := heap_lt (HK.out _ HB5.out).2.2.1
        by_cases c1 : q < b0
        · have d2 : decide (q < b0) = true := decide_eq_true c1
          have e5 : Box ((w5.setCells (w.heap.size + 1 + 1 + 1) 0 [.int .i64 q, .int .i64 (j : Int)]).heap[w.heap.size + 1 + 1 + 1]? = some (.cells #[.int .i64 q, .int .i64 (j : Int)] 209 (0, 0))) := boxed (sets_heap _ _ _ 0 w5 _ (HK.out _ HB5.out).2.2.1)
          have e6 : Box ((w5.setCells (w.heap.size + 1 + 1 + 1) 0 [.int .i64 q, .int .i64 (j : Int)]).heap[w.heap.size + 1]? = some (.cells #[.int .i64 a, .bool fl] 213 (0, 0)) ∧ (w5.setCells (w.heap.size + 1 + 1 + 1) 0 [.int .i64 q, .int .i64 (j : Int)]).heap[w.heap.size + 1 + 1]? = some (.cells #[.int .i64 0, .int .i64 0] 209 (0, 0)) ∧ Below w.heap.size w (w5.setCells (w.heap.size + 1 + 1 + 1) 0 [.int .i64 q, .int .i64 (j : Int)])) := boxed ⟨(sets_other _ _ (by omega) _ _ _).trans (HK.out _ HB5.out).1, (sets_other _ _ (by omega) _ _ _).trans (HK.out _ HB5.out).2.1, (HK.out _ HB5.out).2.2.2.2.trans (sets_below _ _ (by omega) _ _ _)⟩
          simp only [World.setCells, Nat.zero_add] at e5 e6
          go_wp2_with fail
          go_roundw
          case rel => exact ⟨k + 1, by omega, by go_num, boxed ⟨e6.out.1, e6.out.2.1, by rw [HST.out, if_pos (.inl c1)]; exact e5.out, e6.out.2.2⟩⟩
          case measure => simp [intOf]; omega
        have d2 : decide (q < b0) = false := decide_eq_false c1
        by_cases c2 : q = b0
        · have d3 : (q == b0) = true := by simp [c2]
          have C2 := boxed c2
          clear c2
          by_cases c3 : (j : Int) < b1
          · have d4 : decide ((j : Int) < b1) = true := decide_eq_true c3
            have e5 : Box ((w5.setCells (w.heap.size + 1 + 1 + 1) 0 [.int .i64 q, .int .i64 (j : Int)]).heap[w.heap.size + 1 + 1 + 1]? = some (.cells #[.int .i64 q, .int .i64 (j : Int)] 209 (0, 0))) := boxed (sets_heap _ _ _ 0 w5 _ (HK.out _ HB5.out).2.2.1)
            have e6 : Box ((w5.setCells (w.heap.size + 1 + 1 + 1) 0 [.int .i64 q, .int .i64 (j : Int)]).heap[w.heap.size + 1]? = some (.cells #[.int .i64 a, .bool fl] 213 (0, 0)) ∧ (w5.setCells (w.heap.size + 1 + 1 + 1) 0 [.int .i64 q, .int .i64 (j : Int)]).heap[w.heap.size + 1 + 1]? = some (.cells #[.int .i64 0, .int .i64 0] 209 (0, 0)) ∧ Below w.heap.size w (w5.setCells (w.heap.size + 1 + 1 + 1) 0 [.int .i64 q, .int .i64 (j : Int)])) := boxed ⟨(sets_other _ _ (by omega) _ _ _).trans (HK.out _ HB5.out).1, (sets_other _ _ (by omega) _ _ _).trans (HK.out _ HB5.out).2.1, (HK.out _ HB5.out).2.2.2.2.trans (sets_below _ _ (by omega) _ _ _)⟩
            simp only [World.setCells, Nat.zero_add] at e5 e6
            go_wp2_with fail
            go_roundw
            case rel => exact ⟨k + 1, by omega, by go_num, boxed ⟨e6.out.1, e6.out.2.1, by rw [HST.out, if_pos (.inr ⟨C2.out, c3⟩)]; exact e5.out, e6.out.2.2⟩⟩
            case measure => simp [intOf]; omega
          · have d4 : decide ((j : Int) < b1) = false := decide_eq_false c3
            go_wp2_with fail
            go_roundw
            case rel => exact ⟨k + 1, by omega, by go_num, boxed ⟨(HK.out _ HB5.out).1, (HK.out _ HB5.out).2.1, by rw [HST.out, if_neg (by have := C2.out; omega)]; exact (HK.out _ HB5.out).2.2.1, (HK.out _ HB5.out).2.2.2.2⟩⟩
            case measure => simp [intOf]; omega
        · have d3 : (q == b0) = false := by simp [c2]
          go_wp2_with fail
          go_roundw
          case rel => exact ⟨k + 1, by omega, by go_num, boxed ⟨(HK.out _ HB5.out).1, (HK.out _ HB5.out).2.1, by rw [HST.out, if_neg (by omega)]; exact (HK.out _ HB5.out).2.2.1, (HK.out _ HB5.out).2.2.2.2⟩⟩
          case measure => simp [intOf]; omega
    · obtain rfl : k = 4 := by omega
      have t1 : decide (((4 : Nat) : Int) < 4) = false := by simp
      obtain ⟨b0, b1, hbest⟩ : ∃ b0 b1, chp I n s R C a fl 4 = (b0, b1) := ⟨_, _, rfl⟩
      have HB := boxed hbest
      rw [hbest] at e3
      simp only at e3
      obtain ⟨⟨g0, g1⟩, -⟩ := cells2 e3
      obtain ⟨⟨g2, g3⟩, y2, y3⟩ := cells2 e2
      have HP2 : Box ((wr.setCells (w.heap.size + 1 + 1) 0 [.int .i64 b0, .int .i64 b1]).heap[w.heap.size + 1 + 1]? = some (.cells #[.int .i64 b0, .int .i64 b1] 209 (0, 0))) := boxed (sets_heap _ _ _ 0 wr _ e2)
      have HF2 := boxed (hb.trans (sets_below (w.heap.size + 1 + 1) w.heap.size (by omega) [.int .i64 b0, .int .i64 b1] 0 wr))
      simp only [World.setCells, Nat.zero_add] at HP2 HF2
      clear e1 e2 e3 hb hbest HR
      go_wp2_with fail
      refine bodyPost_ret (results_cell_row rfl _ _ (w.heap.size + 1 + 1) 209 #[.int .i64 b0, .int .i64 b1] (0, 0) _ rfl HP2.out Tryz.underlying209 rfl (by kernel_rfl)) rfl ⟨by rw [HB.out], HF2.out⟩
end
end Go.Proofs.YtcjcdpfjnomehaaGreat
