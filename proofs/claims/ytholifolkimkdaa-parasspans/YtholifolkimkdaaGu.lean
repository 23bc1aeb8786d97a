/-
  Edits as they are handed in: what the reading of them gives.
-/
import Derived.Deep.Slices
import Derived.SizedLaws
import Derived.OpenShut
import Derived.Test.YtholifolkimkdaaGt
namespace Go.Proofs.Ytholifolkimkdaa
open Go.RowKit Go.Deep
set_option linter.unusedSimpArgs false
set_option linter.unusedVariables false

/-- An edit that may be handed in. -/
def OprOk (o : Opr) : Prop := I64 o.a ∧ I64 o.b ∧ o.m.size ≤ maxLen
theorem spot_none {w : World} {a : Addr} {v : Value} (h : w.cell? a = some v) : a.spot = none := by
  cases hs : a.spot with
  | none => rfl
  | some s =>
    exfalso
    unfold World.cell? at h
    split at h
    · simp [hs] at h
    · cases h
theorem wf_i64 {n : Int} (h : (Lit.int .i64 n).wf = true) : I64 n := by
  have h' : IntKind.i64.min ≤ n ∧ n ≤ 9223372036854775807 := by simpa [Lit.wf] using h
  exact ⟨h'.1, h'.2⟩
/-- Edits as they lie in memory. -/
def OpsAt (w : World) (ao : Option Addr) (n : Nat) (O : Nat → Opr) : Prop := ∀ i, i < n → OprOk (O i) ∧ ∃ b off, ao = some ⟨b, off, none⟩ ∧
    w.cell? ⟨b, off + i * 4, none⟩ = some (.bool (O i).out) ∧ w.cell? ⟨b, off + i * 4 + 1, none⟩ = some (.int .i64 (O i).a) ∧ w.cell? ⟨b, off + i * 4 + 2, none⟩ = some (.int .i64 (O i).b) ∧ w.cell? ⟨b, off + i * 4 + 3, none⟩ = some (.string (O i).m)
theorem OpsAt.below {w w' : World} {ao : Option Addr} {n : Nat} {O : Nat → Opr} (h : OpsAt w ao n O) (hb : Below w.heap.size w w') : OpsAt w' ao n O := by
  intro i hi
  obtain ⟨h1, b, off, e, c0, c1, c2, c3⟩ := h i hi
  exact ⟨h1, b, off, e, hold hb c0, hold hb c1, hold hb c2, hold hb c3⟩
section
variable {H : Type} {enc : TypeId × Value → H} {W : World}

/-- One edit. -/
theorem open_op {fuel : Nat} {cs : List Value} {d : DataW H} {p : List MemPlace} (h : DataW.trod enc Try.prog W 0 (fun _ => true) true fuel 28 cs = some (d, p)) :
    ∃ o : Opr, cs = [.bool o.out, .int .i64 o.a, .int .i64 o.b, .string o.m] ∧ OprOk o := by
  obtain ⟨xs, n, _, hx, hl, hlen, hf⟩ := DataW.trod_struct Try.underlying28 h
  have hc4 : Try.prog.cellsOf 28 = 4 := by kernel_rfl
  rw [hc4] at hl
  obtain ⟨c0, c1, c2, c3, rfl⟩ : ∃ a b c d, cs = [a, b, c, d] := by
    match cs, hl with
    | [a, b, c, d], _ => exact ⟨a, b, c, d, rfl⟩
  have k3 : Try.prog.cellsOf 3 = 1 := by kernel_rfl
  have k4 : Try.prog.cellsOf 4 = 1 := by kernel_rfl
  have k9 : Try.prog.cellsOf 9 = 1 := by kernel_rfl
  obtain ⟨y0, y1, y2, y3, rfl⟩ : ∃ y0 y1 y2 y3, xs = [y0, y1, y2, y3] := by
    match xs, hlen with
    | [y0, y1, y2, y3], _ => exact ⟨y0, y1, y2, y3, rfl⟩
  have g0 := hf 0 _ rfl
  have g1 := hf 1 _ rfl
  have g2 := hf 2 _ rfl
  have g3 := hf 3 _ rfl
  simp [k3, k4, k9] at g0 g1 g2 g3
  obtain ⟨b0, e0, _⟩ := DataW.trod_bool Try.underlying4 g0
  obtain ⟨b1, e1, _, w1⟩ := DataW.trod_int Try.underlying3 g1
  obtain ⟨b2, e2, _, w2⟩ := DataW.trod_int Try.underlying3 g2
  obtain ⟨b3, e3, x3, w3⟩ := DataW.trod_string Try.underlying9 g3
  injection e0 with e0
  injection e1 with e1
  injection e2 with e2
  injection e3 with e3
  subst e0; subst e1; subst e2; subst e3
  refine ⟨⟨b0, b1, b2, b3⟩, rfl, wf_i64 w1, wf_i64 w2, ?_⟩
  first | exact w3 | exact w3.1 | (simpa using w3)
/-- A slice of edits. -/
theorem open_ops {fuel : Nat} {ao : Option Addr} {len cap : Nat} {d : DataW H} {p : List MemPlace} (h : DataW.trod enc Try.prog W 0 (fun _ => true) true fuel 22 [.slice ao len cap] = some (d, p)) :
    len ≤ maxLen ∧ ∃ O, OpsAt W ao len O := by
  have hc4 : Try.prog.cellsOf 28 = 4 := by kernel_rfl
  rcases open_slice Try.underlying22 h with ⟨hcs, _⟩ | ⟨a, l, c, m, n, D, Pl, hcs, _, hl, hml, hm, hx, hel⟩
  · injection hcs with hcs
    injection hcs with e1 e2 e3
    subst e2; subst e3
    exact ⟨by unfold maxLen; omega, fun _ => ⟨false, 0, 0, ⟨#[]⟩⟩, fun i hi => by omega⟩
  · injection hcs with hcs
    injection hcs with e1 e2 e3
    subst e1; subst e2; subst e3
    have hlm : len ≤ m := by rw [hm]; simp; exact hl
    refine ⟨by omega, ?_⟩
    have key : ∀ i, ∃ o : Opr, i < len → OprOk o ∧ W.cell? (a.add (i * 4)) = some (.bool o.out) ∧ W.cell? ((a.add (i * 4)).add 1) = some (.int .i64 o.a) ∧ W.cell? ((a.add (i * 4)).add 2) = some (.int .i64 o.b) ∧ W.cell? ((a.add (i * 4)).add 3) = some (.string o.m) := by
      intro i
      by_cases hi : i < len
      · obtain ⟨cs', h1, h2⟩ := hel i (by omega)
        rw [hc4] at h1
        obtain ⟨o, rfl, ho⟩ := open_op h2
        obtain ⟨_, _, hg⟩ := World.cells?_some h1
        refine ⟨o, fun _ => ⟨ho, ?_, hg 1 (by omega), hg 2 (by omega), hg 3 (by omega)⟩⟩
        have := hg 0 (by omega)
        simpa [Addr.add] using this
      · exact ⟨⟨false, 0, 0, ⟨#[]⟩⟩, fun h => absurd h hi⟩
    obtain ⟨F, hF⟩ := Classical.axiomOfChoice key
    refine ⟨F, fun i hi => ?_⟩
    obtain ⟨k0, k1, k2, k3, k4⟩ := hF i hi
    have hsp := spot_none (hF 0 (by omega)).2.1
    obtain ⟨b, off, sp⟩ := a
    have hsn : sp = none := by simpa [Addr.add] using hsp
    subst hsn
    simp only [Addr.add_lit] at k1 k2 k3 k4
    exact ⟨k0, b, off, rfl, k1, k2, k3, k4⟩
theorem op_value {fuel : Nat} {v : Value} {d : DataW H} {p : List MemPlace} (h : DataW.trod enc Try.prog W 0 (fun _ => true) true fuel 28 v.cells.toList = some (d, p)) :
    ∃ o : Opr, v = oprV o ∧ OprOk o := by
  obtain ⟨o, e, ho⟩ := open_op h
  refine ⟨o, ?_, ho⟩
  cases v <;> simp [Value.cells] at e
  rename_i cs
  have e' : cs = #[.bool o.out, .int .i64 o.a, .int .i64 o.b, .string o.m] := Array.ext' e
  rw [e']
end
end Go.Proofs.Ytholifolkimkdaa
