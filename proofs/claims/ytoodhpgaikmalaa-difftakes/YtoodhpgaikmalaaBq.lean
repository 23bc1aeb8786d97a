/-
  The law's page: lines with texts.
-/
import Derived.Test.YtoodhpgaikmalaaBn
import Derived.Deep.RegionLaw
namespace Go.Proofs.Ytoodhpgaikmalaa
open Go.RowKit
set_option linter.unusedSimpArgs false
set_option linter.unusedVariables false

def pl (T : Nat → ByteArray) (i : Nat) : Lne := ⟨T i, none, 0, 0, 0, 1, 10, false, 10 * i, false, false, fun _ => 0, fun _ => 0⟩
def pls (T : Nat → ByteArray) (k : Nat) : List Lne := (List.range k).map (pl T)
theorem pls_succ (T : Nat → ByteArray) (k : Nat) : pls T (k + 1) = pls T k ++ [pl T k] := by simp [pls, List.range_succ]
theorem pls_len (T : Nat → ByteArray) (k : Nat) : (pls T k).length = k := by simp [pls]
/-- A page under way. -/
structure PgB (R : Nat) (W : World) (k : Nat) (ao : Option Addr) (cap : Nat) (T : Nat → ByteArray) : Prop where
  res : W.heap[R]? = some (.cells #[.slice none 0 0] 34 (0, 0))
  pg : W.heap[R + 1]? = some (.cells #[.slice ao k cap] 34 (0, 0))
  own : W.ownsRow (R + 2) 37 9 (.slice ao k cap) k (lnec (pls T k))
theorem PgB.below {R : Nat} {W W' : World} {k : Nat} {ao : Option Addr} {cap : Nat} {T : Nat → ByteArray} (h : PgB R W k ao cap T) (hb : Below W.heap.size W W') : PgB R W' k ao cap T :=
  ⟨(hb.block _ (heap_lt h.res)).trans h.res, (hb.block _ (heap_lt h.pg)).trans h.pg, owns_below h.own hb⟩
theorem PgB.step {R : Nat} {W w1 : World} {k : Nat} {ao : Option Addr} {cap : Nat} {T : Nat → ByteArray} (h : PgB R W k ao cap T) (hg : W.grownBy w1 (Value.slice ao k cap).ownBlock) (ao' : Option Addr) (cap' : Nat)
    (ho : w1.ownsRow (R + 2) 37 9 (.slice ao' (k + 1) cap') (k + 1) (lnec (pls T k) ++ (pl T k).cells)) :
    (w1.cell? ⟨R + 1, 0, none⟩ = some (.slice ao k cap) ∧ w1.frozen? ⟨R + 1, 0, none⟩ = false) ∧ PgB R (w1.setCell ⟨R + 1, 0, none⟩ (.slice ao' (k + 1) cap')) (k + 1) ao' cap' T := by
  have hz := heap_lt h.pg
  have hne : ∀ b, b < R + 2 → some b ≠ (Value.slice ao k cap).ownBlock := fun b hb e => by have := (h.own.lt b e.symm).1; omega
  have e1 := (hg.block (R + 1) hz (hne _ (by omega))).trans h.pg
  have e0 := (hg.block R (by omega) (hne _ (by omega))).trans h.res
  refine ⟨⟨by rw [cell_of_row _ _ _ _ _ _ e1]; rfl, row_free e1 0⟩, ?_, ?_, ?_⟩
  · rw [Below.heap_setCell _ _ _ _ (by simp)]; exact e0
  · have := arr_set (k := 0) (.slice ao' (k + 1) cap') e1
    simpa using this
  · rw [pls_succ, lnec_app, lnec_one]
    exact ownsRow_setCell_below ho (by simp only; omega) _
set_option maxRecDepth 100000 in
set_option maxHeartbeats 8000000 in
theorem lpage_any (G n : Nat) (T : Nat → ByteArray) (w : World) (hT : ∀ i, i < n → w.cell? ⟨G, i, none⟩ = some (.string (T i))) (hn : n ≤ 100) :
    Calls Try.prog 19 #[.slice (some ⟨G, 0, none⟩) n n] w fun e w' => ∃ ao cap, e = .returned (.agg #[.slice ao n cap]) ∧ w'.ownsRow w.heap.size 37 9 (.slice ao n cap) n (lnec (pls T n)) ∧ Below w.heap.size w w' := by
  obtain ⟨i0, hi0, hz0, hz1, hz2⟩ := info_parts info_line
  have L0 := laid2 w (.cells #[.slice none 0 0] 34) (.cells #[.slice none 0 0] 34)
  obtain ⟨wc, hwc⟩ : ∃ wc, (w.alloc (.cells #[.slice none 0 0] 34)).alloc (.cells #[.slice none 0 0] 34) = wc := ⟨_, rfl⟩
  rw [hwc] at L0
  have HWC := boxed hwc
  have HT := boxed hT
  obtain ⟨R, hR⟩ : ∃ R, w.heap.size = R := ⟨_, rfl⟩
  have HR := boxed hR
  rw [hR] at L0 ⊢
  have HB0 : Box (Below R w wc) := boxed L0.2.2.1
  have HP0 : Box (PgB R wc 0 none 0 T) := boxed ⟨L0.1, L0.2.1, by rw [show lnec (pls T 0) = [] from rfl]; exact World.ownsRow_nil _ _ _ _⟩
  clear L0 hwc hR hT
  go_enter Try.func19, Try.ntmps19
  go_upto_region 2 with (fail)
  rw [HWC.out, HR.out]
  go_wp2_with fail
  go_loopw [4] (fun iv wr => ∃ k : Nat, k ≤ n ∧ iv = .int .i64 (k : Nat) ∧ Box (∃ ao cap, PgB R wr k ao cap T) ∧ Box (Below R w wr)) (fun iv _ => n - (intOf iv).toNat)
  case atStart => exact ⟨0, Nat.zero_le _, rfl, boxed ⟨none, 0, HP0.out⟩, HB0⟩
  case round =>
    obtain ⟨k, hk, rfl, HP, HB⟩ := hrel
    obtain ⟨ao, cap, hp⟩ := HP.out
    have hpb := hp
    by_cases hlt : k < n
    · have hbw : Below w.heap.size w wr := by rw [HR.out]; exact HB.out
      have c0 := hold hbw (HT.out k hlt)
      have c1 : wr.cell? ⟨R + 1, 0, none⟩ = some (.slice ao k cap) := by rw [cell_of_row _ _ _ _ _ _ hp.pg]; rfl
      have hlt2 : (k : Int) < (n : Int) := by omega
      have t0 : decide ((k : Int) < (n : Int)) = true := decide_eq_true (by omega)
      have hGl : G < wr.heap.size := World.block_lt_of_cell? wr _ c0
      have hzr := heap_lt hp.pg
      obtain ⟨y, hy⟩ : ∃ y : Int, (10 : Int) * (k : Int) = y := ⟨_, rfl⟩
      have hwy : IntKind.i64.wrap ((10 : Int) * (k : Int)) = y := by rw [IntKind.wrap_i64]; omega
      have HCells : Box ((pl T k).cells = [.string (T k), .slice none 0 0, .int .i64 0, .int .i64 1, .int .i64 10, .bool false, .int .i64 y, .bool false, .bool false]) := boxed (by simp [Lne.cells, pl, hy])
      clear hy
      have l1 := laid1 wr (.cells #[.string (T k), .slice none 0 0, .int .i64 0, .int .i64 1, .int .i64 10, .bool false, .int .i64 y, .bool false, .bool false] 37)
      have HDa : Box (Below wr.heap.size wr (wr.alloc (.cells #[.string (T k), .slice none 0 0, .int .i64 0, .int .i64 1, .int .i64 10, .bool false, .int .i64 y, .bool false, .bool false] 37)).drew) := boxed l1.2.1.drew
      have HPa := boxed (hp.below HDa.out)
      have HNw : Box (∀ j u, ([.string (T k), .slice none 0 0, .int .i64 0, .int .i64 1, .int .i64 10, .bool false, .int .i64 y, .bool false, .bool false] : List Value)[j]? = some u → (wr.alloc (.cells #[.string (T k), .slice none 0 0, .int .i64 0, .int .i64 1, .int .i64 10, .bool false, .int .i64 y, .bool false, .bool false] 37)).drew.cell? ((⟨wr.heap.size, 0, none⟩ : Addr).add j) = some u) := boxed (by
        intro j u hj
        rw [Addr.add_lit, Nat.zero_add, World.cell?_drew, cell_first]
        simpa using hj)
      have H1c : Box (∀ u ∈ ([.string (T k), .slice none 0 0, .int .i64 0, .int .i64 1, .int .i64 10, .bool false, .int .i64 y, .bool false, .bool false] : List Value), u.oneCell' = true) := boxed (by
        intro u hu
        simp at hu
        rcases hu with rfl | rfl | rfl | rfl | rfl | rfl | rfl | rfl | rfl <;> rfl)
      have hb0 : R + 2 ≤ (wr.alloc (.cells #[.string (T k), .slice none 0 0, .int .i64 0, .int .i64 1, .int .i64 10, .bool false, .int .i64 y, .bool false, .bool false] 37)).drew.heap.size := by simp; omega
      have HBX := boxed (fun w1 (hg : (wr.alloc (.cells #[.string (T k), .slice none 0 0, .int .i64 0, .int .i64 1, .int .i64 10, .bool false, .int .i64 y, .bool false, .bool false] 37)).drew.grownBy w1 (Value.slice ao k cap).ownBlock) v1 => (show Below R w (w1.setCell ⟨R + 1, 0, none⟩ v1) from
        ((below_step HB.out (by rw [HR.out]; exact Nat.le_refl _) HDa.out).grown hg (by have := HB.out.size; have := HR.out; simp; omega) (fun r hr => by have := (HPa.out.own.lt r hr).1; omega)).setCell (p := ⟨R + 1, 0, none⟩) (by simp only; omega) _))
      have e0 : wr.drew.cell? ⟨G, k, none⟩ = some (.string (T k)) := c0
      have e1 : wr.drew.cell? ⟨R + 1, 0, none⟩ = some (.slice ao k cap) := c1
      have e2 := hold HDa.out c0
      have e3 := hold HDa.out c1
      have hn0 : G ≠ wr.heap.size := by omega
      have hn1 : R + 1 ≠ wr.heap.size := by omega
      clear hp hpb HP l1 hbw
      go_upto_region 5 with (fail)
      go_region_law
        (first | (refine step_append_own rfl _ _ 32 rfl (R + 2) 37 i0 _ 9 88 Try.underlying32 hi0 hz0 hz1 hz2 rfl (by decide) _ _ _ rfl HPa.out.own ⟨wr.heap.size, 0, none⟩ 1 1 [.string (T k), .slice none 0 0, .int .i64 0, .int .i64 1, .int .i64 10, .bool false, .int .i64 y, .bool false, .bool false] rfl rfl HNw.out H1c.out (by unfold maxLen; omega) (by omega) hb0 ?_; intro v1 w1 hown1 hg1; obtain ⟨a1, c9, rfl⟩ := own_shape hown1; obtain ⟨⟨k1', z1⟩, hPn⟩ := HPa.out.step hg1 a1 c9 (by rw [HCells.out]; exact hown1); have HPn := boxed hPn; have HBn := boxed (HBX.out w1 hg1 (.slice a1 (k + 1) c9)); clear hown1 hg1 hPn))
      all_goals
        go_wp2_with fail
        go_roundw
        case rel => exact ⟨k + 1, by omega, by go_num, boxed ⟨_, _, HPn.out⟩, HBn⟩
        case measure => simp [intOf]; omega
    · obtain rfl : k = n := by omega
      have t0 : decide ((k : Int) < (k : Int)) = false := decide_eq_false (by omega)
      have c1 : wr.cell? ⟨R + 1, 0, none⟩ = some (.slice ao k cap) := by rw [cell_of_row _ _ _ _ _ _ hp.pg]; rfl
      have c0 : wr.cell? ⟨R, 0, none⟩ = some (.slice none 0 0) := by rw [cell_of_row _ _ _ _ _ _ hp.res]; rfl
      have f0 := row_free hp.res 0
      have HRr := boxed (show (wr.setCell ⟨R, 0, none⟩ (.slice ao k cap)).heap[R]? = some (.cells #[.slice ao k cap] 34 (0, 0)) from by have := arr_set (k := 0) (.slice ao k cap) hp.res; simpa using this)
      have HOr := boxed (own_down (ownsRow_setCell_below hp.own (a := ⟨R, 0, none⟩) (by simp only; omega) (.slice ao k cap)) (show R ≤ R + 2 by omega))
      have HFr := boxed (HB.out.setCell (p := ⟨R, 0, none⟩) (Nat.le_refl _) (.slice ao k cap))
      clear hp hpb HP
      go_wp2_with fail
      refine bodyPost_ret (v := .agg #[.slice ao k cap]) ?_ ?_ ?_
      · exact results_cell_row Try.results19 _ _ R 34 _ (0, 0) _ rfl HRr.out Try.underlying34 rfl (by kernel_rfl)
      · rfl
      · exact ⟨_, _, rfl, HOr.out, HFr.out⟩
end Go.Proofs.Ytoodhpgaikmalaa
