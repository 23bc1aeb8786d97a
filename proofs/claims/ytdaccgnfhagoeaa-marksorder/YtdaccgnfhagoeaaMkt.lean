/-
  The law's awake, size.
-/
import Derived.Test.YtdaccgnfhagoeaaMks
namespace Go.Proofs.Ytdaccgnfhagoeaa
open Go.RowKit
set_option linter.unusedSimpArgs false
set_option linter.unusedVariables false

def awF : Nat → Opr
  | 0 => ⟨0, 3, 0, false⟩
  | 1 => ⟨0, 3, 0, true⟩
  | _ => ⟨1, 3, 2, false⟩
theorem aw_set : pls 5 awF 3 = ⟨7, 2, [⟨1, 5, false⟩, ⟨2, 3, true⟩]⟩ := by
  simp [pls, stp, awF, St.put, St.ins, insP]
theorem size16law_any (n : Int) (w : World) : Calls Try.prog 9 #[.int .i64 n] w fun e w' => e = .returned (.bool (decide (0 ≤ n ∧ n ≤ 65536))) ∧ w' = w := by
  by_cases h1 : 0 ≤ n
  · have t1 : decide (0 ≤ n) = true := decide_eq_true h1
    have t3 : decide (0 ≤ n ∧ n ≤ 65536) = decide (n ≤ 65536) := by by_cases c : n ≤ 65536 <;> simp [c, h1]
    rw [t3]
    clear h1 t3
    go_enter Try.func9, Try.ntmps9
    go_wp2_with fail
    go_ret
    exact ⟨rfl, rfl⟩
  · have t1 : decide (0 ≤ n) = false := decide_eq_false h1
    have t3 : decide (0 ≤ n ∧ n ≤ 65536) = false := decide_eq_false (fun h => h1 h.1)
    rw [t3]
    clear h1 t3
    go_enter Try.func9, Try.ntmps9
    go_wp2_with fail
    go_ret
    exact ⟨rfl, rfl⟩
set_option maxRecDepth 100000 in
set_option maxHeartbeats 4000000 in
theorem awake16_any (w : World) : Calls Try.prog 8 #[] w fun e w' => e = .returned (.bool true) ∧ Below w.heap.size w w' := by
  have l1 := laid1 w (.cells #[.int .i64 0, .int .i64 3, .int .i64 0, .bool false, .int .i64 0, .int .i64 3, .int .i64 0, .bool true, .int .i64 1, .int .i64 3, .int .i64 2, .bool false] 51)
  generalize hW : w.alloc (.cells #[.int .i64 0, .int .i64 3, .int .i64 0, .bool false, .int .i64 0, .int .i64 3, .int .i64 0, .bool true, .int .i64 1, .int .i64 3, .int .i64 2, .bool false] 51) = W at l1
  obtain ⟨l0, lb, lz⟩ := l1
  have hops : OpsAt W.heap.size W (some ⟨w.heap.size, 0, none⟩) 3 awF := by
    intro i hi
    refine ⟨w.heap.size, 0, rfl, by omega, ?_⟩
    match i, hi with
    | 0, _ => simp [World.cell?, l0, awF]
    | 1, _ => simp [World.cell?, l0, awF]
    | 2, _ => simp [World.cell?, l0, awF]
  have hp := played16_any (n := 5) (c := 3) hops (by omega) (by omega)
  rw [show min 3 80 = 3 from rfl, aw_set] at hp
  have HPl := boxed hp
  have HW := boxed hW
  have HB := boxed lb
  clear hW l0 hp hops
  go_enter Try.func8, Try.ntmps8
  go_wp2_with fail
  rw [HW.out]
  refine HPl.out.mono ?_
  rintro e w1 ⟨⟨sb, v, x, rfl, hp1, hr1⟩, hb1⟩
  obtain ⟨a1, c1, rfl, -⟩ := rbox hr1
  have hal : Below w1.heap.size w1 (w1.alloc (.cells #[.int .i64 7, .int .i64 2, .slice a1 2 c1] 31)) := (Below.refl _ _).alloc (Nat.le_refl _) _
  have HB1 := boxed ((below_step HB.out (Nat.le_refl _) hb1).trans (hal.mono (by have := hb1.size; omega)))
  have HP1 := boxed (hp1.below hal)
  clear hp1 hr1 hb1 hal HPl
  have hg1 : (St.get ⟨7, 2, [⟨1, 5, false⟩, ⟨2, 3, true⟩]⟩ 1) = (⟨1, 5, false⟩, 0) := by simp [St.get, ix]
  have hg2 : (St.get ⟨7, 2, [⟨1, 5, false⟩, ⟨2, 3, true⟩]⟩ 2) = (⟨2, 3, true⟩, 0) := by simp [St.get, ix]
  have hri : ([⟨1, 5, false⟩, ⟨2, 3, true⟩] : List Mk).Pairwise (fun x y => x.id < y.id) := by simp
  have HG1 := boxed (get16_any HP1.out hri (by simp) 1)
  have HG2 : Box (∀ w', PS w.heap.size w' sb v ⟨7, 2, [⟨1, 5, false⟩, ⟨2, 3, true⟩]⟩ → _) := boxed (fun w' h => get16_any h hri (by simp) 2)
  have HPw : Box (PS w.heap.size (w1.alloc (.cells #[.int .i64 7, .int .i64 2, .slice a1 2 c1] 31)) sb v ⟨7, 2, [⟨1, 5, false⟩, ⟨2, 3, true⟩]⟩) := boxed ⟨by have := HP1.out.lo; omega, HP1.out.blk, ⟨HP1.out.own.1, by
    rcases HP1.out.own.2 with h2 | ⟨g, cap, cur, e1, h3, r⟩
    · exact .inl h2
    · exact .inr ⟨g, cap, cur, e1, by omega, r⟩⟩⟩
  clear HP1 hri
  rw [hg1] at HG1
  unfold Mk.val at HG1
  simp only at HG1
  go_wp2_with fail
  refine HG1.out.mono ?_
  rintro e w2 ⟨rfl, hb2⟩
  have HB2 := boxed (below_step HB1.out (by have := HB1.out.size; omega) hb2)
  have hp2 := HPw.out.below hb2
  have l2 := laid1 w2 (.cells #[.int .i64 1, .int .i64 5, .bool false] 36)
  have HP3 := boxed (hp2.below l2.2.1)
  have HB3 := boxed (HB2.out.trans (l2.2.1.mono HB2.out.size))
  have hz3 := l2.2.2
  have x3 := (cells3 l2.1).1
  have hg3 := HG2.out _ HP3.out
  rw [hg2] at hg3
  unfold Mk.val at hg3
  simp only at hg3
  have HG3 := boxed hg3
  clear hb2 hp2 l2 HG1 HPw HG2 hg3
  generalize hW3 : w2.alloc (.cells #[.int .i64 1, .int .i64 5, .bool false] 36) = w3 at *
  have HW3 := boxed hW3
  clear hW3
  go_wp2_with fail
  rw [HW3.out]
  refine HG3.out.mono ?_
  rintro e w4 ⟨rfl, hb4⟩
  have HB4 := boxed (below_step HB3.out (Nat.le_refl _) hb4)
  have y0 := hold hb4 x3.1
  have y1 := hold hb4 x3.2.1
  have y2 := hold hb4 x3.2.2
  have hz4 := hb4.size
  have hlt4 : w2.heap.size < w4.heap.size := by omega
  have HP4 := boxed (HP3.out.below hb4)
  have hal : Below w4.heap.size w4 (w4.alloc (.cells #[.int .i64 2, .int .i64 3, .bool true] 36)) := (Below.refl _ _).alloc (Nat.le_refl _) _
  have HSz := boxed (size16_any (HP4.out.below hal))
  have HFin := boxed (HB4.out.trans (hal.mono HB4.out.size))
  clear hb4 hal x3 HG3
  go_wp2_with fail
  refine HSz.out.mono ?_
  rintro e w5 ⟨rfl, hw5⟩
  subst w5
  go_wp2_with fail
  go_ret
  exact ⟨rfl, HFin.out⟩
end Go.Proofs.Ytdaccgnfhagoeaa
