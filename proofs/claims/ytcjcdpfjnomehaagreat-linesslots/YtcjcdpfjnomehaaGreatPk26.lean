/-
  What the statements of layer 10 are handed: a paragraph, a line, lines, as they lie in memory.
-/
import Derived.Test.YtcjcdpfjnomehaaGreatPk22
import Derived.Test.YtcjcdpfjnomehaaGreatPk23
import Derived.Test.YtcjcdpfjnomehaaGreatPk25
namespace Go.Proofs.YtcjcdpfjnomehaaGreat
open Go.RowKit Go.Deep
set_option linter.unusedSimpArgs false
set_option linter.unusedVariables false
def paraV (t : ByteArray) (ao : Option Addr) (n cap : Nat) (width : Int) (s : Stg) : Value := .agg #[.string t, .slice ao n cap, .int .i64 width, .int .i64 s.t, .int .i64 s.l, .int .i64 s.a, .int .i64 s.d, .int .i64 s.z, .int .i64 s.o, .int .i64 s.i]
structure LneOk (x : Lne) : Prop where
  tx : x.tx.size ≤ maxLen
  rn : x.rn ≤ maxLen ∧ x.rn ≤ x.rc
  num : I64 x.num
  den : I64 x.den
  h : I64 x.h
  y : I64 x.y
section
variable {H : Type} {enc : TypeId × Value → H} {W : World}
set_option maxRecDepth 100000 in
theorem open_line {fuel : Nat} {cs : List Value} {d : DataW H} {p : List MemPlace} (h : DataW.trod enc Tryz.prog W 0 (fun _ => true) true fuel 59 cs = some (d, p)) :
    ∃ x : Lne, cs = x.cells ∧ LneOk x ∧ Ru.P2At (fun _ => True) W x.ra x.rn x.L x.Y := by
  obtain ⟨xs, nn, _, hx, hl, hlen, hf⟩ := DataW.trod_struct Tryz.underlying59 h
  have hcn : Tryz.prog.cellsOf 59 = 9 := by kernel_rfl
  rw [hcn] at hl
  have k3 : Tryz.prog.cellsOf 3 = 1 := by kernel_rfl
  have k4 : Tryz.prog.cellsOf 4 = 1 := by kernel_rfl
  have k9 : Tryz.prog.cellsOf 9 = 1 := by kernel_rfl
  have kr : Tryz.prog.cellsOf 23 = 1 := by kernel_rfl
  obtain ⟨c0, c1, c2, c3, c4, c5, c6, c7, c8, rfl⟩ : ∃ c0 c1 c2 c3 c4 c5 c6 c7 c8, cs = [c0, c1, c2, c3, c4, c5, c6, c7, c8] := by
    match cs, hl with
    | [c0, c1, c2, c3, c4, c5, c6, c7, c8], _ => exact ⟨c0, c1, c2, c3, c4, c5, c6, c7, c8, rfl⟩
  obtain ⟨y0, y1, y2, y3, y4, y5, y6, y7, y8, rfl⟩ : ∃ y0 y1 y2 y3 y4 y5 y6 y7 y8, xs = [y0, y1, y2, y3, y4, y5, y6, y7, y8] := by
    match xs, hlen with
    | [y0, y1, y2, y3, y4, y5, y6, y7, y8], _ => exact ⟨y0, y1, y2, y3, y4, y5, y6, y7, y8, rfl⟩
  have g0 := hf 0 _ rfl
  have g1 := hf 1 _ rfl
  have g2 := hf 2 _ rfl
  have g3 := hf 3 _ rfl
  have g4 := hf 4 _ rfl
  have g5 := hf 5 _ rfl
  have g6 := hf 6 _ rfl
  have g7 := hf 7 _ rfl
  have g8 := hf 8 _ rfl
  simp [k3, k4, k9, kr] at g0 g1 g2 g3 g4 g5 g6 g7 g8
  obtain ⟨b0, e0, x0, w0⟩ := DataW.trod_string Tryz.underlying9 g0
  obtain ⟨b2, e2, _, w2⟩ := DataW.trod_int Tryz.underlying3 g2
  obtain ⟨b3, e3, _, w3⟩ := DataW.trod_int Tryz.underlying3 g3
  obtain ⟨b4, e4, _, w4⟩ := DataW.trod_int Tryz.underlying3 g4
  obtain ⟨b5, e5, _⟩ := DataW.trod_bool Tryz.underlying4 g5
  obtain ⟨b6, e6, _, w6⟩ := DataW.trod_int Tryz.underlying3 g6
  obtain ⟨b7, e7, _⟩ := DataW.trod_bool Tryz.underlying4 g7
  obtain ⟨b8, e8, _⟩ := DataW.trod_bool Tryz.underlying4 g8
  injection e0 with e0
  injection e2 with e2
  injection e3 with e3
  injection e4 with e4
  injection e5 with e5
  injection e6 with e6
  injection e7 with e7
  injection e8 with e8
  subst e0; subst e2; subst e3; subst e4; subst e5; subst e6; subst e7; subst e8
  obtain ⟨ra, rn, rc, rfl⟩ : ∃ ra rn rc, c1 = .slice ra rn rc := by
    rcases open_slice Tryz.underlying23 g1 with ⟨hcs, _⟩ | ⟨a, l, c, m, n, D, Pl, hcs, _⟩
    · injection hcs with hcs; exact ⟨_, _, _, hcs⟩
    · injection hcs with hcs; exact ⟨_, _, _, hcs⟩
  obtain ⟨q1, L, Y, q2⟩ := It.open_runs g1
  exact ⟨⟨b0, ra, rn, rc, b2, b3, b4, b5, b6, b7, b8, L, Y⟩, rfl, ⟨w0, ⟨q1, Ru.open_cap g1⟩, wf_i64 w2, wf_i64 w3, wf_i64 w4, wf_i64 w6⟩, runs_pair q2⟩
theorem open_lines {fuel : Nat} {ao : Option Addr} {len cap : Nat} {d : DataW H} {p : List MemPlace} (h : DataW.trod enc Tryz.prog W 0 (fun _ => true) true fuel 32 [.slice ao len cap] = some (d, p)) :
    len ≤ maxLen ∧ ∃ F, LnsAt (fun _ => True) W ao len F ∧ ∀ i, i < len → LneOk (F i) := by
  have hc9 : Tryz.prog.cellsOf 59 = 9 := by kernel_rfl
  rcases open_slice Tryz.underlying32 h with ⟨hcs, _⟩ | ⟨a, l, c, m, n, D, Pl, hcs, _, hl, hml, hm, hx, hel⟩
  · injection hcs with hcs
    injection hcs with e1 e2 e3
    subst e2; subst e3
    exact ⟨by unfold maxLen; omega, fun _ => Lne.zero, fun i hi => by omega, fun i hi => by omega⟩
  · injection hcs with hcs
    injection hcs with e1 e2 e3
    subst e1; subst e2; subst e3
    have hlm : len ≤ m := by rw [hm]; simp; exact hl
    refine ⟨by omega, ?_⟩
    have key : ∀ i, ∃ x : Lne, i < len → (LneOk x ∧ Ru.P2At (fun _ => True) W x.ra x.rn x.L x.Y) ∧ ∀ j, j < 9 → W.cell? ((a.add (i * 9)).add j) = x.cells[j]? := by
      intro i
      by_cases hi : i < len
      · obtain ⟨cs', h1, h2⟩ := hel i (by omega)
        rw [hc9] at h1
        obtain ⟨x, rfl, hr⟩ := open_line h2
        obtain ⟨_, _, hg⟩ := World.cells?_some h1
        refine ⟨x, fun _ => ⟨hr, fun j hj => ?_⟩⟩
        have := hg j (by simpa [Lne.cells] using hj)
        rw [this]
      · exact ⟨Lne.zero, fun h => absurd h hi⟩
    obtain ⟨F, hF⟩ := Classical.axiomOfChoice key
    refine ⟨F, fun i hi => ?_, fun i hi => (hF i hi).1.1⟩
    obtain ⟨k0, k1⟩ := hF i hi
    have hsp := spot_none (v := .string (F 0).tx) ((hF 0 (by omega)).2 0 (by omega))
    obtain ⟨b, off, sp⟩ := a
    have hsn : sp = none := by simpa [Addr.add] using hsp
    subst hsn
    simp only [Addr.add_lit] at k1
    exact ⟨k0.2, b, off, rfl, trivial, k1 0 (by omega), k1 1 (by omega), k1 2 (by omega), k1 3 (by omega), k1 4 (by omega), k1 5 (by omega), k1 6 (by omega), k1 7 (by omega), k1 8 (by omega)⟩
end
end Go.Proofs.YtcjcdpfjnomehaaGreat
