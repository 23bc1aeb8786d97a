/-
  Edits as they are handed in: what the reading of them gives.
-/
import Derived.Deep.Slices
import Derived.SizedLaws
import Derived.OpenShut
import Derived.Test.YtholifolkimkdabGt
namespace Go.Proofs.Ytholifolkimkdab
open Go.RowKit Go.Deep
set_option linter.unusedSimpArgs false
set_option linter.unusedVariables false

/-- An edit that may be handed in. -/
def OprOk (o : Opr) : Prop := I64 o.a ∧ I64 o.b ∧ o.m.size ≤ maxLen
theorem spot_none {w : World} {a : Addr} {v : Value} (h : w.cell? a = some v) : a.spot = none := by
  cases hs : a.spot with
  | none => rfl
  | some s =>
    exfalso
    unfold World.cell? at h
    split at h
    · simp [hs] at h
    · cases h
theorem wf_i64 {n : Int} (h : (Lit.int .i64 n).wf = true) : I64 n := by
  have h' : IntKind.i64.min ≤ n ∧ n ≤ 9223372036854775807 := by simpa [Lit.wf] using h
  exact ⟨h'.1, h'.2⟩
/-- Edits as they lie in memory. -/
def OpsAt (w : World) (ao : Option Addr) (n : Nat) (O : Nat → Opr) : Prop := ∀ i, i < n → OprOk (O i) ∧ ∃ b off, ao = some ⟨b, off, none⟩ ∧
    w.cell? ⟨b, off + i * 4, none⟩ = some (.bool (O i).out) ∧ w.cell? ⟨b, off + i * 4 + 1, none⟩ = some (.int .i64 (O i).a) ∧ w.cell? ⟨b, off + i * 4 + 2, none⟩ = some (.int .i64 (O i).b) ∧ w.cell? ⟨b, off + i * 4 + 3, none⟩ = some (.string (O i).m)
theorem OpsAt.below {w w' : World} {ao : Option Addr} {n : Nat} {O : Nat → Opr} (h : OpsAt w ao n O) (hb : Below w.heap.size w w') : OpsAt w' ao n O := by
  intro i hi
  obtain ⟨h1, b, off, e, c0, c1, c2, c3⟩ := h i hi
  exact ⟨h1, b, off, e, hold hb c0, hold hb c1, hold hb c2, hold hb c3⟩
section
variable {H : Type} {enc : TypeId × Value → H} {W : World}

/-- One edit. -/
theorem open_op {fuel : Nat} {cs : List Value} {d : DataW H} {p : List MemPlace} (h : DataW.trod enc Try.prog W 0 (fun _ => true) true fuel 23 cs = some (d, p)) :
    ∃ o : Opr, cs = [.bool o.out, .int .i64 o.a, .int .i64 o.b, .string o.m] ∧ OprOk o := by
  obtain ⟨xs, n, _, hx, hl, hlen, hf⟩ := DataW.trod_struct Try.underlying23 h
  have hc4 : Try.prog.cellsOf 23 = 4 := by kernel_rfl
  rw [hc4] at hl
  obtain ⟨c0, c1, c2, c3, rfl⟩ : ∃ a b c d, cs = [a, b, c, d] := by
    match cs, hl with
    | [a, b, c, d], _ => exact ⟨a, b, c, d, rfl⟩
  have k3 : Try.prog.cellsOf 3 = 1 := by kernel_rfl
  have k4 : Try.prog.cellsOf 4 = 1 := by kernel_rfl
  have k9 : Try.prog.cellsOf 9 = 1 := by kernel_rfl
  obtain ⟨y0, y1, y2, y3, rfl⟩ : ∃ y0 y1 y2 y3, xs = [y0, y1, y2, y3] := by
    match xs, hlen with
    | [y0, y1, y2, y3], _ => exact ⟨y0, y1, y2, y3, rfl⟩
  have g0 := hf 0 _ rfl
  have g1 := hf 1 _ rfl
  have g2 := hf 2 _ rfl
  have g3 := hf 3 _ rfl
  simp [k3, k4, k9] at g0 g1 g2 g3
  obtain ⟨b0, e0, _⟩ := DataW.trod_bool Try.underlying4 g0
  obtain ⟨b1, e1, _, w1⟩ := DataW.trod_int Try.underlying3 g1
  obtain ⟨b2, e2, _, w2⟩ := DataW.trod_int Try.underlying3 g2
  obtain ⟨b3, e3, x3, w3⟩ := DataW.trod_string Try.underlying9 g3
  injection e0 with e0
  injection e1 with e1
  injection e2 with e2
  injection e3 with e3
  subst e0; subst e1; subst e2; subst e3
  refine ⟨⟨b0, b1, b2, b3⟩, rfl, wf_i64 w1, wf_i64 w2, ?_⟩
  first | exact w3 | exact w3.1 | (simpa using w3)
theorem op_value {fuel : Nat} {v : Value} {d : DataW H} {p : List MemPlace} (h : DataW.trod enc Try.prog W 0 (fun _ => true) true fuel 23 v.cells.toList = some (d, p)) :
    ∃ o : Opr, v = oprV o ∧ OprOk o := by
  obtain ⟨o, e, ho⟩ := open_op h
  refine ⟨o, ?_, ho⟩
  cases v <;> simp [Value.cells] at e
  rename_i cs
  have e' : cs = #[.bool o.out, .int .i64 o.a, .int .i64 o.b, .string o.m] := Array.ext' e
  rw [e']
end
end Go.Proofs.Ytholifolkimkdab
