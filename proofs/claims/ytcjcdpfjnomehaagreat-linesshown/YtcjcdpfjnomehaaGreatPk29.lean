/-
  What the statements of layer 10 are handed: a paragraph, a line, lines, as they lie in memory.
-/
import Derived.Test.YtcjcdpfjnomehaaGreatPk22
import Derived.Test.YtcjcdpfjnomehaaGreatPk26
import Derived.Test.YtcjcdpfjnomehaaGreatPk28
namespace Go.Proofs.YtcjcdpfjnomehaaGreat
open Go.RowKit Go.Deep
set_option linter.unusedSimpArgs false
set_option linter.unusedVariables false
def paraV (t : ByteArray) (ao : Option Addr) (n cap : Nat) (width : Int) (s : Stg) : Value := .agg #[.string t, .slice ao n cap, .int .i64 width, .int .i64 s.t, .int .i64 s.l, .int .i64 s.a, .int .i64 s.d, .int .i64 s.z, .int .i64 s.o, .int .i64 s.i]
structure LneOk (x : Lne) : Prop where
  tx : x.tx.size ≤ maxLen
  rn : x.rn ≤ maxLen ∧ x.rn ≤ x.rc
  num : I64 x.num
  den : I64 x.den
  h : I64 x.h
  y : I64 x.y
section
variable {H : Type} {enc : TypeId × Value → H} {W : World}
set_option maxRecDepth 100000 in
theorem open_line {fuel : Nat} {cs : List Value} {d : DataW H} {p : List MemPlace} (h : DataW.trod enc Tryz.prog W 0 (fun _ => true) true fuel 59 cs = some (d, p)) :
    ∃ x : Lne, cs = x.cells ∧ LneOk x ∧ Ru.P2At (fun _ => True) W x.ra x.rn x.L x.Y := by
  obtain ⟨xs, nn, _, hx, hl, hlen, hf⟩ := DataW.trod_struct Tryz.underlying59 h
  have hcn : Tryz.prog.cellsOf 59 = 9 := by kernel_rfl
  rw [hcn] at hl
  have k3 : Tryz.prog.cellsOf 3 = 1 := by kernel_rfl
  have k4 : Tryz.prog.cellsOf 4 = 1 := by kernel_rfl
  have k9 : Tryz.prog.cellsOf 9 = 1 := by kernel_rfl
  have kr : Tryz.prog.cellsOf 23 = 1 := by kernel_rfl
  obtain ⟨c0, c1, c2, c3, c4, c5, c6, c7, c8, rfl⟩ : ∃ c0 c1 c2 c3 c4 c5 c6 c7 c8, cs = [c0, c1, c2, c3, c4, c5, c6, c7, c8] := by
    match cs, hl with
    | [c0, c1, c2, c3, c4, c5, c6, c7, c8], _ => exact ⟨c0, c1, c2, c3, c4, c5, c6, c7, c8, rfl⟩
  obtain ⟨y0, y1, y2, y3, y4, y5, y6, y7, y8, rfl⟩ : ∃ y0 y1 y2 y3 y4 y5 y6 y7 y8, xs = [y0, y1, y2, y3, y4, y5, y6, y7, y8] := by
    match xs, hlen with
    | [y0, y1, y2, y3, y4, y5, y6, y7, y8], _ => exact ⟨y0, y1, y2, y3, y4, y5, y6, y7, y8, rfl⟩
  have g0 := hf 0 _ rfl
  have g1 := hf 1 _ rfl
  have g2 := hf 2 _ rfl
  have g3 := hf 3 _ rfl
  have g4 := hf 4 _ rfl
  have g5 := hf 5 _ rfl
  have g6 := hf 6 _ rfl
  have g7 := hf 7 _ rfl
  have g8 := hf 8 _ rfl
  simp [k3, k4, k9, kr] at g0 g1 g2 g3 g4 g5 g6 g7 g8
  obtain ⟨b0, e0, x0, w0⟩ := DataW.trod_string Tryz.underlying9 g0
  obtain ⟨b2, e2, _, w2⟩ := DataW.trod_int Tryz.underlying3 g2
  obtain ⟨b3, e3, _, w3⟩ := DataW.trod_int Tryz.underlying3 g3
  obtain ⟨b4, e4, _, w4⟩ := DataW.trod_int Tryz.underlying3 g4
  obtain ⟨b5, e5, _⟩ := DataW.trod_bool Tryz.underlying4 g5
  obtain ⟨b6, e6, _, w6⟩ := DataW.trod_int Tryz.underlying3 g6
  obtain ⟨b7, e7, _⟩ := DataW.trod_bool Tryz.underlying4 g7
  obtain ⟨b8, e8, _⟩ := DataW.trod_bool Tryz.underlying4 g8
  injection e0 with e0
  injection e2 with e2
  injection e3 with e3
  injection e4 with e4
  injection e5 with e5
  injection e6 with e6
  injection e7 with e7
  injection e8 with e8
  subst e0; subst e2; subst e3; subst e4; subst e5; subst e6; subst e7; subst e8
  obtain ⟨ra, rn, rc, rfl⟩ : ∃ ra rn rc, c1 = .slice ra rn rc := by
    rcases open_slice Tryz.underlying23 g1 with ⟨hcs, _⟩ | ⟨a, l, c, m, n, D, Pl, hcs, _⟩
    · injection hcs with hcs; exact ⟨_, _, _, hcs⟩
    · injection hcs with hcs; exact ⟨_, _, _, hcs⟩
  obtain ⟨q1, L, Y, q2⟩ := It.open_runs g1
  exact ⟨⟨b0, ra, rn, rc, b2, b3, b4, b5, b6, b7, b8, L, Y⟩, rfl, ⟨w0, ⟨q1, Ru.open_cap g1⟩, wf_i64 w2, wf_i64 w3, wf_i64 w4, wf_i64 w6⟩, runs_pair q2⟩
theorem line_value {fuel : Nat} {v : Value} {d : DataW H} {p : List MemPlace} (h : DataW.trod enc Tryz.prog W 0 (fun _ => true) true fuel 59 v.cells.toList = some (d, p)) :
    ∃ x : Lne, v = x.val ∧ LneOk x ∧ Ru.P2At (fun _ => True) W x.ra x.rn x.L x.Y := by
  obtain ⟨x, e, h1, h2⟩ := open_line h
  refine ⟨x, ?_, h1, h2⟩
  unfold Lne.cells at e
  cases v <;> simp [Value.cells] at e
  rename_i cs
  have e' : cs = #[.string x.tx, .slice x.ra x.rn x.rc, .int .i64 x.num, .int .i64 x.den, .int .i64 x.h, .bool x.hy, .int .i64 x.y, .bool x.bg, .bool x.en] := Array.ext' e
  rw [e']
  rfl
set_option maxRecDepth 100000 in
theorem line_text {fuel : Nat} {x : Lne} {d : DataW H} {p : List MemPlace} (h : DataW.trod enc Tryz.prog W 0 (fun _ => true) true fuel 59 x.cells = some (d, p)) (hw : ∀ n ∈ d.weights Tryz.prog 59, n ≤ reachBytes) : x.tx.size ≤ 140737488351232 := by
  obtain ⟨xs, nn, _, hx, hl, hlen, hf⟩ := DataW.trod_struct Tryz.underlying59 h
  have k9 : Tryz.prog.cellsOf 9 = 1 := by kernel_rfl
  obtain ⟨y0, y1, y2, y3, y4, y5, y6, y7, y8, rfl⟩ : ∃ y0 y1 y2 y3 y4 y5 y6 y7 y8, xs = [y0, y1, y2, y3, y4, y5, y6, y7, y8] := by
    match xs, hlen with
    | [y0, y1, y2, y3, y4, y5, y6, y7, y8], _ => exact ⟨y0, y1, y2, y3, y4, y5, y6, y7, y8, rfl⟩
  have g0 := hf 0 _ rfl
  simp [k9, Lne.cells] at g0
  obtain ⟨b0, e0, x0, w0⟩ := DataW.trod_string Tryz.underlying9 g0
  injection e0 with e0
  injection e0 with e0
  injection hx with hx1 hx2
  subst hx1
  have := hw b0.data.toList.length (by
    simp only [DataW.weights, Tryz.underlying59]
    exact DataW.weights_mem_each (j := 0) rfl rfl _ (by rw [x0]; simp [DataW.weights]))
  rw [e0]
  have e1 : b0.size = b0.data.toList.length := Array.length_toList.symm
  unfold reachBytes at this
  omega
theorem line_value2 {fuel : Nat} {v : Value} {d : DataW H} {p : List MemPlace} (h : DataW.trod enc Tryz.prog W 0 (fun _ => true) true fuel 59 v.cells.toList = some (d, p)) (hw : ∀ n ∈ d.weights Tryz.prog 59, n ≤ reachBytes) :
    ∃ x : Lne, v = x.val ∧ (LneOk x ∧ x.tx.size ≤ 140737488351232) ∧ Ru.P2At (fun _ => True) W x.ra x.rn x.L x.Y := by
  obtain ⟨x, e, h1, h2⟩ := open_line h
  have h3 : DataW.trod enc Tryz.prog W 0 (fun _ => true) true fuel 59 x.cells = some (d, p) := by rw [← e]; exact h
  obtain ⟨x', e', h1', h2'⟩ := line_value h
  have ee : x'.cells = x.cells := by rw [← e, e']; rfl
  refine ⟨x, ?_, ⟨h1, line_text h3 hw⟩, h2⟩
  rw [e']
  unfold Lne.cells at ee
  unfold Lne.val
  injection ee with a1 ee; injection ee with a2 ee; injection ee with a3 ee; injection ee with a4 ee; injection ee with a5 ee; injection ee with a6 ee; injection ee with a7 ee; injection ee with a8 ee; injection ee with a9 ee
  rw [a1, a2, a3, a4, a5, a6, a7, a8, a9]
end
end Go.Proofs.YtcjcdpfjnomehaaGreat
