/-
  What the laws of layer 16 are handed: calls, a call, a pair of numbers.
-/
import Derived.Test.YtdaccgnfhagoeaaMks
import Derived.Deep.Slices
import Derived.SizedLaws
import Derived.OpenShut
namespace Go.Proofs.Ytdaccgnfhagoeaa
open Go.RowKit Go.Deep
set_option linter.unusedSimpArgs false
set_option linter.unusedVariables false

theorem spot_none {w : World} {a : Addr} {v : Value} (h : w.cell? a = some v) : a.spot = none := by
  cases hs : a.spot with
  | none => rfl
  | some s =>
    exfalso
    unfold World.cell? at h
    split at h
    · simp [hs] at h
    · cases h
theorem wf_i64 {n : Int} (h : (Lit.int .i64 n).wf = true) : I64 n := by
  have h' : IntKind.i64.min ≤ n ∧ n ≤ 9223372036854775807 := by simpa [Lit.wf] using h
  exact ⟨h'.1, h'.2⟩
section
variable {H : Type} {enc : TypeId × Value → H} {W : World}
theorem pair_value {t : TypeId} (ht : Try.prog.underlying t = some (.array 2 3)) (hc : Try.prog.cellsOf t = 2) {fuel : Nat} {v : Value} {d : DataW H} {p : List MemPlace} (h : DataW.trod enc Try.prog W 0 (fun _ => true) true fuel t v.cells.toList = some (d, p)) :
    ∃ x y : Int, v = .agg #[.int .i64 x, .int .i64 y] ∧ (-9223372036854775808 ≤ x ∧ x ≤ 9223372036854775807) ∧ -9223372036854775808 ≤ y ∧ y ≤ 9223372036854775807 := by
  have k3 : Try.prog.cellsOf 3 = 1 := by kernel_rfl
  obtain ⟨xs, m, _, _, hl, hlen, hf⟩ := DataW.trod_array ht h
  rw [hc] at hl
  obtain ⟨c0, c1, e⟩ : ∃ c0 c1, v.cells.toList = [c0, c1] := by
    match hq : v.cells.toList, hl with
    | [c0, c1], _ => exact ⟨c0, c1, rfl⟩
  obtain ⟨y0, y1, rfl⟩ : ∃ y0 y1, xs = [y0, y1] := by
    match xs, hlen with
    | [y0, y1], _ => exact ⟨y0, y1, rfl⟩
  have g0 := hf 0 (by omega)
  have g1 := hf 1 (by omega)
  rw [e] at g0 g1
  simp [k3] at g0 g1
  obtain ⟨b0, e0, _, w0⟩ := DataW.trod_int Try.underlying3 g0
  obtain ⟨b1, e1, _, w1⟩ := DataW.trod_int Try.underlying3 g1
  injection e0 with e0
  injection e1 with e1
  subst e0; subst e1
  refine ⟨b0, b1, ?_, wf_i64 w0, wf_i64 w1⟩
  cases v <;> simp [Value.cells] at e
  rename_i cs
  have e' : cs = #[.int .i64 b0, .int .i64 b1] := Array.ext' e
  rw [e']
set_option maxRecDepth 100000 in
theorem open_op16 {fuel : Nat} {cs : List Value} {d : DataW H} {p : List MemPlace} (h : DataW.trod enc Try.prog W 0 (fun _ => true) true fuel 51 cs = some (d, p)) :
    ∃ x : Opr, cs = [.int .i64 x.k, .int .i64 x.a, .int .i64 x.b, .bool x.t] ∧ I64 x.k ∧ I64 x.a ∧ I64 x.b := by
  obtain ⟨xs, nn, _, hx, hl, hlen, hf⟩ := DataW.trod_struct Try.underlying51 h
  have hcn : Try.prog.cellsOf 51 = 4 := by kernel_rfl
  rw [hcn] at hl
  have k3 : Try.prog.cellsOf 3 = 1 := by kernel_rfl
  have k4 : Try.prog.cellsOf 4 = 1 := by kernel_rfl
  obtain ⟨c0, c1, c2, c3, rfl⟩ : ∃ c0 c1 c2 c3, cs = [c0, c1, c2, c3] := by
    match cs, hl with
    | [c0, c1, c2, c3], _ => exact ⟨c0, c1, c2, c3, rfl⟩
  obtain ⟨y0, y1, y2, y3, rfl⟩ : ∃ y0 y1 y2 y3, xs = [y0, y1, y2, y3] := by
    match xs, hlen with
    | [y0, y1, y2, y3], _ => exact ⟨y0, y1, y2, y3, rfl⟩
  have g0 := hf 0 _ rfl
  have g1 := hf 1 _ rfl
  have g2 := hf 2 _ rfl
  have g3 := hf 3 _ rfl
  simp [k3, k4] at g0 g1 g2 g3
  obtain ⟨b0, e0, _, w0⟩ := DataW.trod_int Try.underlying3 g0
  obtain ⟨b1, e1, _, w1⟩ := DataW.trod_int Try.underlying3 g1
  obtain ⟨b2, e2, _, w2⟩ := DataW.trod_int Try.underlying3 g2
  obtain ⟨b3, e3, _⟩ := DataW.trod_bool Try.underlying4 g3
  injection e0 with e0
  injection e1 with e1
  injection e2 with e2
  injection e3 with e3
  subst e0; subst e1; subst e2; subst e3
  exact ⟨⟨b0, b1, b2, b3⟩, rfl, wf_i64 w0, wf_i64 w1, wf_i64 w2⟩
theorem op16_value {fuel : Nat} {v : Value} {d : DataW H} {p : List MemPlace} (h : DataW.trod enc Try.prog W 0 (fun _ => true) true fuel 51 v.cells.toList = some (d, p)) :
    ∃ o : Opr, v = o.val ∧ I64 o.k ∧ I64 o.a ∧ I64 o.b := by
  obtain ⟨x, e, hr⟩ := open_op16 h
  refine ⟨x, ?_, hr⟩
  cases v <;> simp [Value.cells] at e
  rename_i cs
  have e' : cs = #[.int .i64 x.k, .int .i64 x.a, .int .i64 x.b, .bool x.t] := Array.ext' e
  rw [e']
  rfl
theorem open_ops16 {fuel : Nat} {ao : Option Addr} {len cap : Nat} {d : DataW H} {p : List MemPlace} (h : DataW.trod enc Try.prog W 0 (fun _ => true) true fuel 22 [.slice ao len cap] = some (d, p)) :
    ∃ F, OpsAt W.heap.size W ao len F := by
  have hc4 : Try.prog.cellsOf 51 = 4 := by kernel_rfl
  rcases open_slice Try.underlying22 h with ⟨hcs, _⟩ | ⟨a, l, c, m, n, D, Pl, hcs, _, hl, hml, hm, hx, hel⟩
  · injection hcs with hcs
    injection hcs with e1 e2 e3
    subst e2; subst e3
    exact ⟨fun _ => ⟨0, 0, 0, false⟩, fun i hi => by omega⟩
  · injection hcs with hcs
    injection hcs with e1 e2 e3
    subst e1; subst e2; subst e3
    have hlm : len ≤ m := by rw [hm]; simp; exact hl
    have key : ∀ i, ∃ x : Opr, i < len → ∀ j, j < 4 → W.cell? ((a.add (i * 4)).add j) = [Value.int .i64 x.k, .int .i64 x.a, .int .i64 x.b, .bool x.t][j]? := by
      intro i
      by_cases hi : i < len
      · obtain ⟨cs', h1, h2⟩ := hel i (by omega)
        rw [hc4] at h1
        obtain ⟨x, rfl, hr⟩ := open_op16 h2
        obtain ⟨_, _, hg⟩ := World.cells?_some h1
        refine ⟨x, fun _ => fun j hj => ?_⟩
        have := hg j (by simpa using hj)
        rw [this]
      · exact ⟨⟨0, 0, 0, false⟩, fun h => absurd h hi⟩
    obtain ⟨F, hF⟩ := Classical.axiomOfChoice key
    refine ⟨F, fun i hi => ?_⟩
    have k1 := hF i hi
    have hsp := spot_none (v := .int .i64 (F 0).k) ((hF 0 (by omega)) 0 (by omega))
    obtain ⟨b, off, sp⟩ := a
    have hsn : sp = none := by simpa [Addr.add] using hsp
    subst hsn
    simp only [Addr.add_lit] at k1
    exact ⟨b, off, rfl, World.block_lt_of_cell? W _ (k1 0 (by omega)), k1 0 (by omega), k1 1 (by omega), k1 2 (by omega), k1 3 (by omega)⟩
end
end Go.Proofs.Ytdaccgnfhagoeaa
