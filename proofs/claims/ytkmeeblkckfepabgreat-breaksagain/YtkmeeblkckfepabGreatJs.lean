/-
  Items as they are handed in: what the reading of such a slice gives.
-/
import Derived.Test.YtkmeeblkckfepabGreatJa
import Derived.Deep.Slices
import Derived.SizedLaws
import Derived.OpenShut
namespace Go.Proofs.YtkmeeblkckfepabGreat
open Go.RowKit Go.Deep
set_option linter.unusedSimpArgs false
set_option linter.unusedVariables false

theorem spot_none {w : World} {a : Addr} {v : Value} (h : w.cell? a = some v) : a.spot = none := by
  cases hs : a.spot with
  | none => rfl
  | some s =>
    exfalso
    unfold World.cell? at h
    split at h
    · simp [hs] at h
    · cases h
theorem wf_i64 {n : Int} (h : (Lit.int .i64 n).wf = true) : I64 n := by
  have h' : IntKind.i64.min ≤ n ∧ n ≤ 9223372036854775807 := by simpa [Lit.wf] using h
  exact ⟨h'.1, h'.2⟩
section
variable {H : Type} {enc : TypeId × Value → H} {W : World}
set_option maxRecDepth 100000 in
/-- One item. -/
theorem open_item {fuel : Nat} {cs : List Value} {d : DataW H} {p : List MemPlace} (h : DataW.trod enc Tryz.prog W 0 (fun _ => true) true fuel 52 cs = some (d, p)) : ∃ x : Itm, cs = x.cells := by
  obtain ⟨xs, n, _, hx, hl, hlen, hf⟩ := DataW.trod_struct Tryz.underlying52 h
  have hc9 : Tryz.prog.cellsOf 52 = 9 := by kernel_rfl
  rw [hc9] at hl
  have k3 : Tryz.prog.cellsOf 3 = 1 := by kernel_rfl
  have k4 : Tryz.prog.cellsOf 4 = 1 := by kernel_rfl
  obtain ⟨c0, c1, c2, c3, c4, c5, c6, c7, c8, rfl⟩ : ∃ c0 c1 c2 c3 c4 c5 c6 c7 c8, cs = [c0, c1, c2, c3, c4, c5, c6, c7, c8] := by
    match cs, hl with
    | [c0, c1, c2, c3, c4, c5, c6, c7, c8], _ => exact ⟨c0, c1, c2, c3, c4, c5, c6, c7, c8, rfl⟩
  obtain ⟨y0, y1, y2, y3, y4, y5, y6, y7, y8, rfl⟩ : ∃ y0 y1 y2 y3 y4 y5 y6 y7 y8, xs = [y0, y1, y2, y3, y4, y5, y6, y7, y8] := by
    match xs, hlen with
    | [y0, y1, y2, y3, y4, y5, y6, y7, y8], _ => exact ⟨y0, y1, y2, y3, y4, y5, y6, y7, y8, rfl⟩
  have g0 := hf 0 _ rfl
  have g1 := hf 1 _ rfl
  have g2 := hf 2 _ rfl
  have g3 := hf 3 _ rfl
  have g4 := hf 4 _ rfl
  have g5 := hf 5 _ rfl
  have g6 := hf 6 _ rfl
  have g7 := hf 7 _ rfl
  have g8 := hf 8 _ rfl
  simp [k3, k4] at g0 g1 g2 g3 g4 g5 g6 g7 g8
  obtain ⟨b0, e0, _⟩ := DataW.trod_int Tryz.underlying3 g0
  obtain ⟨b1, e1, _⟩ := DataW.trod_int Tryz.underlying3 g1
  obtain ⟨b2, e2, _⟩ := DataW.trod_int Tryz.underlying3 g2
  obtain ⟨b3, e3, _⟩ := DataW.trod_int Tryz.underlying3 g3
  obtain ⟨b4, e4, _⟩ := DataW.trod_bool Tryz.underlying4 g4
  obtain ⟨b5, e5, _⟩ := DataW.trod_int Tryz.underlying3 g5
  obtain ⟨b6, e6, _⟩ := DataW.trod_bool Tryz.underlying4 g6
  obtain ⟨b7, e7, _⟩ := DataW.trod_int Tryz.underlying3 g7
  obtain ⟨b8, e8, _⟩ := DataW.trod_int Tryz.underlying3 g8
  injection e0 with e0
  injection e1 with e1
  injection e2 with e2
  injection e3 with e3
  injection e4 with e4
  injection e5 with e5
  injection e6 with e6
  injection e7 with e7
  injection e8 with e8
  subst e0; subst e1; subst e2; subst e3; subst e4; subst e5; subst e6; subst e7; subst e8
  exact ⟨⟨b0, b1, b2, b3, b4, b5, b6, b7, b8⟩, rfl⟩
theorem open_items {fuel : Nat} {ao : Option Addr} {len cap : Nat} {d : DataW H} {p : List MemPlace} (h : DataW.trod enc Tryz.prog W 0 (fun _ => true) true fuel 22 [.slice ao len cap] = some (d, p)) :
    len ≤ maxLen ∧ ∃ I, ItsAt (fun _ => True) W ao len I := by
  have hc9 : Tryz.prog.cellsOf 52 = 9 := by kernel_rfl
  rcases open_slice Tryz.underlying22 h with ⟨hcs, _⟩ | ⟨a, l, c, m, n, D, Pl, hcs, _, hl, hml, hm, hx, hel⟩
  · injection hcs with hcs
    injection hcs with e1 e2 e3
    subst e2; subst e3
    exact ⟨by unfold maxLen; omega, fun _ => Itm.zero, fun i hi => by omega⟩
  · injection hcs with hcs
    injection hcs with e1 e2 e3
    subst e1; subst e2; subst e3
    have hlm : len ≤ m := by rw [hm]; simp; exact hl
    refine ⟨by omega, ?_⟩
    have key : ∀ i, ∃ x : Itm, i < len → ∀ j, j < 9 → W.cell? ((a.add (i * 9)).add j) = (x.cells)[j]? := by
      intro i
      by_cases hi : i < len
      · obtain ⟨cs', h1, h2⟩ := hel i (by omega)
        rw [hc9] at h1
        obtain ⟨x, rfl⟩ := open_item h2
        obtain ⟨_, _, hg⟩ := World.cells?_some h1
        exact ⟨x, fun _ j hj => hg j hj⟩
      · exact ⟨Itm.zero, fun h => absurd h hi⟩
    obtain ⟨I, hI⟩ := Classical.axiomOfChoice key
    refine ⟨I, fun i hi => ?_⟩
    have hsp := spot_none (hI 0 (by omega) 0 (by omega))
    obtain ⟨b, off, sp⟩ := a
    have hsn : sp = none := by simpa [Addr.add] using hsp
    subst hsn
    have k := hI i hi
    simp only [Addr.add_lit] at k
    exact ⟨b, off, rfl, trivial, k 0 (by omega), k 1 (by omega), k 2 (by omega), k 3 (by omega), k 4 (by omega), k 5 (by omega), k 6 (by omega), k 7 (by omega), k 8 (by omega)⟩
end
end Go.Proofs.YtkmeeblkckfepabGreat
