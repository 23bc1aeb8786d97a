/-
  What the laws of layer 15 are handed: a line, a page, a spot, a pair of numbers.
-/
import Derived.Test.YtcdcpmcjlchfgaaLpa
namespace Go.Proofs.Ytcdcpmcjlchfgaa
open Go.RowKit Go.Deep
set_option linter.unusedSimpArgs false
set_option linter.unusedVariables false

section
variable {H : Type} {enc : TypeId × Value → H} {W : World}
theorem pair_value {t : TypeId} (ht : Try.prog.underlying t = some (.array 2 3)) (hc : Try.prog.cellsOf t = 2) {fuel : Nat} {v : Value} {d : DataW H} {p : List MemPlace} (h : DataW.trod enc Try.prog W 0 (fun _ => true) true fuel t v.cells.toList = some (d, p)) :
    ∃ x y : Int, v = .agg #[.int .i64 x, .int .i64 y] ∧ (-9223372036854775808 ≤ x ∧ x ≤ 9223372036854775807) ∧ -9223372036854775808 ≤ y ∧ y ≤ 9223372036854775807 := by
  have k3 : Try.prog.cellsOf 3 = 1 := by kernel_rfl
  obtain ⟨xs, m, _, _, hl, hlen, hf⟩ := DataW.trod_array ht h
  rw [hc] at hl
  obtain ⟨c0, c1, e⟩ : ∃ c0 c1, v.cells.toList = [c0, c1] := by
    match hq : v.cells.toList, hl with
    | [c0, c1], _ => exact ⟨c0, c1, rfl⟩
  obtain ⟨y0, y1, rfl⟩ : ∃ y0 y1, xs = [y0, y1] := by
    match xs, hlen with
    | [y0, y1], _ => exact ⟨y0, y1, rfl⟩
  have g0 := hf 0 (by omega)
  have g1 := hf 1 (by omega)
  rw [e] at g0 g1
  simp [k3] at g0 g1
  obtain ⟨b0, e0, _, w0⟩ := DataW.trod_int Try.underlying3 g0
  obtain ⟨b1, e1, _, w1⟩ := DataW.trod_int Try.underlying3 g1
  injection e0 with e0
  injection e1 with e1
  subst e0; subst e1
  refine ⟨b0, b1, ?_, wf_i64 w0, wf_i64 w1⟩
  cases v <;> simp [Value.cells] at e
  rename_i cs
  have e' : cs = #[.int .i64 b0, .int .i64 b1] := Array.ext' e
  rw [e']
theorem line15_value {fuel : Nat} {v : Value} {d : DataW H} {p : List MemPlace} (h : DataW.trod enc Try.prog W 0 (fun _ => true) true fuel 41 v.cells.toList = some (d, p)) (hw : ∀ n ∈ d.weights Try.prog 41, n ≤ reachBytes) :
    ∃ x : Lne, v = x.val ∧ LneOk x ∧ P2At (fun _ => True) W x.ra x.rn x.L x.Y := by
  obtain ⟨x, e, h1, h2⟩ := open_lineP h
  have h3 : DataW.trod enc Try.prog W 0 (fun _ => true) true fuel 41 x.cells = some (d, p) := by rw [← e]; exact h
  refine ⟨x, ?_, ⟨line_text h3 hw, h1.rn, h1.num, h1.den, h1.h, h1.y⟩, h2⟩
  unfold Lne.cells at e
  cases v <;> simp [Value.cells] at e
  rename_i cs
  have e' : cs = #[.string x.tx, .slice x.ra x.rn x.rc, .int .i64 x.num, .int .i64 x.den, .int .i64 x.h, .bool x.hy, .int .i64 x.y, .bool x.bg, .bool x.en] := Array.ext' e
  rw [e']
  rfl
theorem page15_value {fuel : Nat} {cs : Array Value} {d : DataW H} {p : List MemPlace} (h : DataW.trod enc Try.prog W 0 (fun _ => true) true fuel 62 (Value.agg cs).cells.toList = some (d, p)) (hw : ∀ n ∈ d.weights Try.prog 62, n ≤ reachBytes) :
    ∃ x : Pgv, cs = #[.slice x.la x.ln x.lc] ∧ PgvOk x ∧ LnsAt (fun _ => True) W x.la x.ln x.F := by
  obtain ⟨x, e, h1, h2⟩ := open_page h hw
  refine ⟨x, ?_, h1, h2⟩
  simp [Value.cells] at e
  exact Array.ext' e
set_option maxRecDepth 100000 in
theorem spot15_value {fuel : Nat} {v : Value} {d : DataW H} {p : List MemPlace} (h : DataW.trod enc Try.prog W 0 (fun _ => true) true fuel 56 v.cells.toList = some (d, p)) :
    ∃ x y z : Int, v = .agg #[.int .i64 x, .int .i64 y, .int .i64 z] ∧ I64 x ∧ I64 y ∧ I64 z := by
  obtain ⟨xs, n, _, hx, hl, hlen, hf⟩ := DataW.trod_struct Try.underlying56 h
  have hcn : Try.prog.cellsOf 56 = 3 := by kernel_rfl
  rw [hcn] at hl
  have k3 : Try.prog.cellsOf 3 = 1 := by kernel_rfl
  obtain ⟨c0, c1, c2, e⟩ : ∃ c0 c1 c2, v.cells.toList = [c0, c1, c2] := by
    match hq : v.cells.toList, hl with
    | [c0, c1, c2], _ => exact ⟨c0, c1, c2, rfl⟩
  obtain ⟨y0, y1, y2, rfl⟩ : ∃ y0 y1 y2, xs = [y0, y1, y2] := by
    match xs, hlen with
    | [y0, y1, y2], _ => exact ⟨y0, y1, y2, rfl⟩
  have g0 := hf 0 _ rfl
  have g1 := hf 1 _ rfl
  have g2 := hf 2 _ rfl
  rw [e] at g0 g1 g2
  simp [k3] at g0 g1 g2
  obtain ⟨b0, e0, _, w0⟩ := DataW.trod_int Try.underlying3 g0
  obtain ⟨b1, e1, _, w1⟩ := DataW.trod_int Try.underlying3 g1
  obtain ⟨b2, e2, _, w2⟩ := DataW.trod_int Try.underlying3 g2
  injection e0 with e0
  injection e1 with e1
  injection e2 with e2
  subst e0; subst e1; subst e2
  refine ⟨b0, b1, b2, ?_, wf_i64 w0, wf_i64 w1, wf_i64 w2⟩
  cases v <;> simp [Value.cells] at e
  rename_i cs
  have e' : cs = #[.int .i64 b0, .int .i64 b1, .int .i64 b2] := Array.ext' e
  rw [e']
end
end Go.Proofs.Ytcdcpmcjlchfgaa
