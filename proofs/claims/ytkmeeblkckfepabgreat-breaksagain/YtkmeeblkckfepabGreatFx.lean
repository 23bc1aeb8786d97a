/-
  A width with settings, and a list of numbers, as they are handed in.
-/
import Derived.Test.YtkmeeblkckfepabGreatEl
namespace Go.Proofs.YtkmeeblkckfepabGreat
open Go.RowKit Go.Deep
set_option linter.unusedSimpArgs false
set_option linter.unusedVariables false

def setV (z : Int) (s : Stg) : Value := .agg #[.int .i64 z, .int .i64 s.t, .int .i64 s.l, .int .i64 s.a, .int .i64 s.d, .int .i64 s.z, .int .i64 s.o, .int .i64 s.i]
/-- Numbers, one behind the other. -/
def IntsAt (w : World) (ao : Option Addr) (n : Nat) (X : Nat → Int) : Prop := ∀ i, i < n → ∃ b off, ao = some ⟨b, off, none⟩ ∧ w.cell? ⟨b, off + i, none⟩ = some (.int .i64 (X i)) ∧ I64 (X i)
theorem IntsAt.below {w w' : World} {ao : Option Addr} {n : Nat} {X : Nat → Int} (h : IntsAt w ao n X) (hb : Below w.heap.size w w') : IntsAt w' ao n X := by
  intro i hi
  obtain ⟨b, off, e, h1, h2⟩ := h i hi
  exact ⟨b, off, e, hold hb h1, h2⟩
section
variable {H : Type} {enc : TypeId × Value → H} {W : World}
set_option maxRecDepth 100000 in
theorem setting_value {fuel : Nat} {v : Value} {d : DataW H} {p : List MemPlace} (h : DataW.trod enc Tryz.prog W 0 (fun _ => true) true fuel 26 v.cells.toList = some (d, p)) :
    ∃ (z : Int) (x : Stg), v = setV z x ∧ I64 z ∧ I64 x.t ∧ I64 x.l ∧ I64 x.a ∧ I64 x.d ∧ I64 x.z ∧ I64 x.o ∧ I64 x.i := by
  obtain ⟨xs, n, _, hx, hl, hlen, hf⟩ := DataW.trod_struct Tryz.underlying26 h
  have hcn : Tryz.prog.cellsOf 26 = 8 := by kernel_rfl
  rw [hcn] at hl
  have k3 : Tryz.prog.cellsOf 3 = 1 := by kernel_rfl
  have ks : Tryz.prog.cellsOf 24 = 7 := by kernel_rfl
  generalize hcs : v.cells.toList = cs at *
  obtain ⟨c0, c1, c2, c3, c4, c5, c6, c7, rfl⟩ : ∃ c0 c1 c2 c3 c4 c5 c6 c7, cs = [c0, c1, c2, c3, c4, c5, c6, c7] := by
    match cs, hl with
    | [c0, c1, c2, c3, c4, c5, c6, c7], _ => exact ⟨c0, c1, c2, c3, c4, c5, c6, c7, rfl⟩
  obtain ⟨y0, y1, rfl⟩ : ∃ y0 y1, xs = [y0, y1] := by
    match xs, hlen with
    | [y0, y1], _ => exact ⟨y0, y1, rfl⟩
  have g0 := hf 0 _ rfl
  have g1 := hf 1 _ rfl
  simp [k3, ks] at g0 g1
  obtain ⟨b0, e0, _, w0⟩ := DataW.trod_int Tryz.underlying3 g0
  injection e0 with e0
  subst e0
  obtain ⟨x, e, hxx⟩ := open_sett g1
  refine ⟨b0, x, ?_, wf_i64 w0, hxx⟩
  unfold Stg.cells at e
  injection e with e1 e
  injection e with e2 e
  injection e with e3 e
  injection e with e4 e
  injection e with e5 e
  injection e with e6 e
  injection e with e7 e
  subst e1; subst e2; subst e3; subst e4; subst e5; subst e6; subst e7
  cases v <;> simp [Value.cells] at hcs
  rename_i cs
  have e' : cs = #[.int .i64 b0, .int .i64 x.t, .int .i64 x.l, .int .i64 x.a, .int .i64 x.d, .int .i64 x.z, .int .i64 x.o, .int .i64 x.i] := Array.ext' hcs
  rw [e']
  rfl
set_option maxRecDepth 100000 in
theorem open_nums {fuel : Nat} {ao : Option Addr} {len cap : Nat} {d : DataW H} {p : List MemPlace} (h : DataW.trod enc Tryz.prog W 0 (fun _ => true) true fuel 31 [.slice ao len cap] = some (d, p)) :
    len ≤ maxLen ∧ ∃ X, IntsAt W ao len X := by
  have hc1 : Tryz.prog.cellsOf 3 = 1 := by kernel_rfl
  rcases open_slice Tryz.underlying31 h with ⟨hcs, _⟩ | ⟨a, l, c, m, n, D, Pl, hcs, _, hl, hml, hm, hx, hel⟩
  · injection hcs with hcs
    injection hcs with e1 e2 e3
    subst e2; subst e3
    exact ⟨by unfold maxLen; omega, fun _ => 0, fun i hi => by omega⟩
  · injection hcs with hcs
    injection hcs with e1 e2 e3
    subst e1; subst e2; subst e3
    have hlm : len ≤ m := by rw [hm]; simp; exact hl
    refine ⟨by omega, ?_⟩
    have key : ∀ i, ∃ x : Int, i < len → W.cell? ((a.add (i * 1)).add 0) = some (.int .i64 x) ∧ I64 x := by
      intro i
      by_cases hi : i < len
      · obtain ⟨cs', h1, h2⟩ := hel i (by omega)
        rw [hc1] at h1
        obtain ⟨b0, e0, _, w0⟩ := DataW.trod_int Tryz.underlying3 h2
        subst e0
        obtain ⟨_, _, hg⟩ := World.cells?_some h1
        exact ⟨b0, fun _ => ⟨hg 0 (by omega), wf_i64 w0⟩⟩
      · exact ⟨0, fun h => absurd h hi⟩
    obtain ⟨X, hX⟩ := Classical.axiomOfChoice key
    refine ⟨X, fun i hi => ?_⟩
    have hsp := spot_none (hX 0 (by omega)).1
    obtain ⟨b, off, sp⟩ := a
    have hsn : sp = none := by simpa [Addr.add] using hsp
    subst hsn
    have k := hX i hi
    simp only [Addr.add_lit, Nat.mul_one, Nat.add_zero] at k
    exact ⟨b, off, rfl, k.1, k.2⟩
end
end Go.Proofs.YtkmeeblkckfepabGreat
