/-
  A line that is to be paid for, as it is handed in.
-/
import Derived.Test.YtkoaoejlbkdkgabEl
import Derived.Test.YtkoaoejlbkdkgabEr
namespace Go.Proofs.Ytkoaoejlbkdkgab
open Go.RowKit Go.Deep
set_option linter.unusedSimpArgs false
set_option linter.unusedVariables false

def wayV (f : Ft) (x : Itm) (a b : Bool) : Value := .agg #[.int .i64 f.num, .int .i64 f.den, .int .i64 f.bad, .int .i64 f.cls, .bool f.over, .int .i64 x.k, .int .i64 x.w, .int .i64 x.st, .int .i64 x.sh, .bool x.fill, .int .i64 x.c, .bool x.flag, .int .i64 x.fr, .int .i64 x.to, .bool a, .bool b]
def WayOk (f : Ft) (x : Itm) : Prop := I64 f.cls
section
variable {H : Type} {enc : TypeId × Value → H} {W : World}
set_option maxRecDepth 100000 in
theorem way_value {fuel : Nat} {v : Value} {d : DataW H} {p : List MemPlace} (h : DataW.trod enc Try.prog W 0 (fun _ => true) true fuel 29 v.cells.toList = some (d, p)) : ∃ f x a b, v = wayV f x a b ∧ WayOk f x := by
  obtain ⟨xs, n, _, hx, hl, hlen, hf⟩ := DataW.trod_struct Try.underlying29 h
  have hcn : Try.prog.cellsOf 29 = 16 := by kernel_rfl
  rw [hcn] at hl
  have k3 : Try.prog.cellsOf 25 = 5 := by kernel_rfl
  have k9 : Try.prog.cellsOf 27 = 9 := by kernel_rfl
  have k4 : Try.prog.cellsOf 4 = 1 := by kernel_rfl
  obtain ⟨c0, c1, c2, c3, c4, c5, c6, c7, c8, c9, c10, c11, c12, c13, c14, c15, e⟩ : ∃ c0 c1 c2 c3 c4 c5 c6 c7 c8 c9 c10 c11 c12 c13 c14 c15, v.cells.toList = [c0, c1, c2, c3, c4, c5, c6, c7, c8, c9, c10, c11, c12, c13, c14, c15] := by
    match hq : v.cells.toList, hl with
    | [c0, c1, c2, c3, c4, c5, c6, c7, c8, c9, c10, c11, c12, c13, c14, c15], _ => exact ⟨c0, c1, c2, c3, c4, c5, c6, c7, c8, c9, c10, c11, c12, c13, c14, c15, rfl⟩
  obtain ⟨y0, y1, y2, y3, rfl⟩ : ∃ y0 y1 y2 y3, xs = [y0, y1, y2, y3] := by
    match xs, hlen with
    | [y0, y1, y2, y3], _ => exact ⟨y0, y1, y2, y3, rfl⟩
  have g0 := hf 0 _ rfl
  have g1 := hf 1 _ rfl
  have g2 := hf 2 _ rfl
  have g3 := hf 3 _ rfl
  rw [e] at g0 g1 g2 g3
  simp [k3, k4, k9] at g0 g1 g2 g3
  obtain ⟨f, e0, hF⟩ := open_fit g0
  obtain ⟨x, e1⟩ := open_item g1
  obtain ⟨a, e2, _⟩ := DataW.trod_bool Try.underlying4 g2
  obtain ⟨b, e3, _⟩ := DataW.trod_bool Try.underlying4 g3
  simp [Ft.cells] at e0
  simp [Itm.cells] at e1
  injection e2 with e2
  injection e3 with e3
  obtain ⟨r0, r1, r2, r3, r4⟩ := e0
  obtain ⟨s0, s1, s2, s3, s4, s5, s6, s7, s8⟩ := e1
  subst r0; subst r1; subst r2; subst r3; subst r4
  subst s0; subst s1; subst s2; subst s3; subst s4; subst s5; subst s6; subst s7; subst s8
  subst e2; subst e3
  refine ⟨f, x, a, b, ?_, hF.2.2.2⟩
  cases v <;> simp [Value.cells] at e
  rename_i cs
  unfold wayV
  have e' : cs = #[.int .i64 f.num, .int .i64 f.den, .int .i64 f.bad, .int .i64 f.cls, .bool f.over, .int .i64 x.k, .int .i64 x.w, .int .i64 x.st, .int .i64 x.sh, .bool x.fill, .int .i64 x.c, .bool x.flag, .int .i64 x.fr, .int .i64 x.to, .bool a, .bool b] := Array.ext' e
  rw [e']
end
theorem heap2 (w : World) (A B : Obj) : ((w.alloc A).alloc B).heap[w.heap.size]? = some A ∧ ((w.alloc A).alloc B).heap[w.heap.size + 1]? = some B ∧ Below w.heap.size w ((w.alloc A).alloc B) ∧ ((w.alloc A).alloc B).heap.size = w.heap.size + 2 := by
  refine ⟨?_, ?_, ?_, by simp⟩
  · rw [Below.heap_alloc _ _ _ (by simp)]; exact heap_alloc_new w A
  · have := heap_alloc_new (w.alloc A) B
    simpa using this
  · exact ((Below.refl _ _).alloc (Nat.le_refl _) _).alloc (by simp) _
end Go.Proofs.Ytkoaoejlbkdkgab
