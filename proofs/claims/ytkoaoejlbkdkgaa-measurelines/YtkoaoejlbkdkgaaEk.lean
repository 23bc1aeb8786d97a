/-
  What the program's Usual and the statements' awake answer.
-/
import Derived.Test.YtkoaoejlbkdkgaaEe
namespace Go.Proofs.Ytkoaoejlbkdkgaa
open Go.RowKit
set_option linter.unusedSimpArgs false
set_option linter.unusedVariables false

set_option maxRecDepth 100000 in
set_option maxHeartbeats 1000000 in
theorem usual_any (w : World) : Calls Try.prog 32 #[] w fun e w' => e = .returned (.agg #[.int .i64 200, .int .i64 10, .int .i64 10000, .int .i64 10000, .int .i64 5000, .int .i64 2, .int .i64 2]) ∧ Below w.heap.size w w' := by
  go_enter Try.func32, Try.ntmps32
  go_wp2
  refine bodyPost_ret (v := .agg #[.int .i64 200, .int .i64 10, .int .i64 10000, .int .i64 10000, .int .i64 5000, .int .i64 2, .int .i64 2]) (by simp [results, Try.results32, go_sem]) rfl ⟨rfl, by go_grown⟩
theorem kept_first {w w2 : World} {cs : Array Value} {t : TypeId} (hb : Below (w.alloc (.cells cs t)).heap.size (w.alloc (.cells cs t)) w2) (j : Nat) : w2.cell? ⟨w.heap.size, j, none⟩ = cs[j]? := by
  rw [hb.cell (p := ⟨w.heap.size, j, none⟩) (by simp)]
  exact cell_first _ _ _ _
theorem kept_below {B : Nat} {w w1 w2 : World} {o : Obj} (h1 : Below B w w1) (hB : B ≤ w.heap.size) (hb : Below (w1.alloc o).heap.size (w1.alloc o) w2) : Below B w w2 := by
  have hz := Nat.le_trans hB h1.size
  exact (h1.alloc hz _).trans (hb.mono (by simp; omega))
theorem fldU (a b c d e f g : Value) (w : World) : (Instr.field 60 (.agg #[a, b, c, d, e, f, g]) 0).run Try.prog w = .ok a w := by kernel_rfl
theorem set_one : setF ⟨90, 20, 0, 0⟩ 100 = ⟨1, 2, 12, 1, false⟩ := by kernel_rfl
theorem set_two : setF ⟨90, 20, 0, 0⟩ 120 = ⟨3, 2, 337, 3, false⟩ := by kernel_rfl
set_option maxRecDepth 100000 in
set_option maxHeartbeats 2000000 in
theorem awake_any (w : World) : Calls Try.prog 9 #[] w fun e w' => e = .returned (.bool true) ∧ Below w.heap.size w w' := by
  have s1 := fun w => set_any ⟨90, 20, 0, 0⟩ 100 w (by unfold SmOk; simp only; omega)
  have s2 := fun w => set_any ⟨90, 20, 0, 0⟩ 120 w (by unfold SmOk; simp only; omega)
  rw [set_one] at s1
  rw [set_two] at s2
  have q1 := fun w => eqlFit ⟨1, 2, 12, 1, false⟩ ⟨1, 2, 12, 1, false⟩ w
  have q2 := fun w => eqlFit ⟨3, 2, 337, 3, false⟩ ⟨3, 2, 337, 3, false⟩ w
  rw [Ft.like_self] at q1 q2
  have hg := guardFit
  simp only [Ft.val, Sm.val] at s1 s2 q1 q2
  go_enter Try.func9, Try.ntmps9
  go_wp2_with fail
  refine (s1 _).mono ?_
  rintro e w1 ⟨rfl, hb1⟩
  have HB1 := boxed hb1
  clear hb1
  go_wp2_with fail
  refine (s2 _).mono ?_
  rintro e w2 ⟨rfl, hb2⟩
  have c0 := kept_first hb2 0
  have c1 := kept_first hb2 1
  have c2 := kept_first hb2 2
  have c3 := kept_first hb2 3
  have c4 := kept_first hb2 4
  simp at c0 c1 c2 c3 c4
  have hz1 : w1.heap.size < w2.heap.size := by have := hb2.size; simp at this; omega
  have HB2 := boxed (kept_below HB1.out (Nat.le_refl _) hb2)
  clear hb2 s1 s2
  go_wp2_with fail
  have hfu := fldU
  refine (usual_any _).mono ?_
  rintro e w3 ⟨rfl, hb3⟩
  have HB3 := boxed (kept_below HB2.out (Nat.le_refl _) hb3)
  clear hb3
  go_wp2_with fail
  go_ret
  exact ⟨rfl, HB3.out⟩
end Go.Proofs.Ytkoaoejlbkdkgaa
