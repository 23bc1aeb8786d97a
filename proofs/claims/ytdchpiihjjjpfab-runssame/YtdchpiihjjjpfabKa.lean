/-
  Calls and runs as they are handed in: what the reading of them gives.
-/
import Derived.Deep.Slices
import Derived.SizedLaws
import Derived.OpenShut
import Derived.Test.YtdchpiihjjjpfabLy
namespace Go.Proofs.Ytdchpiihjjjpfab
open Go.RowKit Go.Deep
set_option linter.unusedSimpArgs false
set_option linter.unusedVariables false

theorem spot_none {w : World} {a : Addr} {v : Value} (h : w.cell? a = some v) : a.spot = none := by
  cases hs : a.spot with
  | none => rfl
  | some s =>
    exfalso
    unfold World.cell? at h
    split at h
    · simp [hs] at h
    · cases h
theorem wf_i64 {n : Int} (h : (Lit.int .i64 n).wf = true) : I64 n := by
  have h' : IntKind.i64.min ≤ n ∧ n ≤ 9223372036854775807 := by simpa [Lit.wf] using h
  exact ⟨h'.1, h'.2⟩
section
variable {H : Type} {enc : TypeId × Value → H} {W : World}

theorem open_run {fuel : Nat} {cs : List Value} {d : DataW H} {p : List MemPlace} (h : DataW.trod enc Try.prog W 0 (fun _ => true) true fuel 25 cs = some (d, p)) :
    ∃ l y : Int, cs = [.int .i64 l, .int .i64 y] ∧ I64 l ∧ I64 y := by
  obtain ⟨xs, n, _, hx, hl, hlen, hf⟩ := DataW.trod_struct Try.underlying25 h
  have hc2 : Try.prog.cellsOf 25 = 2 := by kernel_rfl
  rw [hc2] at hl
  have k3 : Try.prog.cellsOf 3 = 1 := by kernel_rfl
  obtain ⟨c0, c1, rfl⟩ : ∃ c0 c1, cs = [c0, c1] := by
    match cs, hl with
    | [c0, c1], _ => exact ⟨c0, c1, rfl⟩
  obtain ⟨y0, y1, rfl⟩ : ∃ y0 y1, xs = [y0, y1] := by
    match xs, hlen with
    | [y0, y1], _ => exact ⟨y0, y1, rfl⟩
  have g0 := hf 0 _ rfl
  have g1 := hf 1 _ rfl
  simp [k3] at g0 g1
  obtain ⟨b0, e0, _, w0⟩ := DataW.trod_int Try.underlying3 g0
  obtain ⟨b1, e1, _, w1⟩ := DataW.trod_int Try.underlying3 g1
  injection e0 with e0
  injection e1 with e1
  subst e0; subst e1
  exact ⟨b0, b1, rfl, wf_i64 w0, wf_i64 w1⟩
theorem open_runs {fuel : Nat} {ao : Option Addr} {len cap : Nat} {d : DataW H} {p : List MemPlace} (h : DataW.trod enc Try.prog W 0 (fun _ => true) true fuel 22 [.slice ao len cap] = some (d, p)) :
    len ≤ maxLen ∧ ∃ L Y, P2At (fun _ => True) W ao len L Y := by
  have hc2 : Try.prog.cellsOf 25 = 2 := by kernel_rfl
  rcases open_slice Try.underlying22 h with ⟨hcs, _⟩ | ⟨a, l, c, m, n, D, Pl, hcs, _, hl, hml, hm, hx, hel⟩
  · injection hcs with hcs
    injection hcs with e1 e2 e3
    subst e2; subst e3
    exact ⟨by unfold maxLen; omega, fun _ => 0, fun _ => 0, fun i hi => by omega⟩
  · injection hcs with hcs
    injection hcs with e1 e2 e3
    subst e1; subst e2; subst e3
    have hlm : len ≤ m := by rw [hm]; simp; exact hl
    refine ⟨by omega, ?_⟩
    have key : ∀ i, ∃ x : Int × Int, i < len → (I64 x.1 ∧ I64 x.2) ∧ W.cell? (a.add (i * 2)) = some (.int .i64 x.1) ∧ W.cell? ((a.add (i * 2)).add 1) = some (.int .i64 x.2) := by
      intro i
      by_cases hi : i < len
      · obtain ⟨cs', h1, h2⟩ := hel i (by omega)
        rw [hc2] at h1
        obtain ⟨l, y, rfl, hr⟩ := open_run h2
        obtain ⟨_, _, hg⟩ := World.cells?_some h1
        refine ⟨(l, y), fun _ => ⟨hr, ?_, hg 1 (by omega)⟩⟩
        have := hg 0 (by omega)
        simpa [Addr.add] using this
      · exact ⟨(0, 0), fun h => absurd h hi⟩
    obtain ⟨F, hF⟩ := Classical.axiomOfChoice key
    refine ⟨fun i => (F i).1, fun i => (F i).2, fun i hi => ?_⟩
    obtain ⟨k0, k1, k2⟩ := hF i hi
    have hsp := spot_none (hF 0 (by omega)).2.1
    obtain ⟨b, off, sp⟩ := a
    have hsn : sp = none := by simpa [Addr.add] using hsp
    subst hsn
    simp only [Addr.add_lit] at k1 k2
    exact ⟨k0, b, off, rfl, trivial, k1, k2⟩
/-- One call. -/
theorem open_op {fuel : Nat} {cs : List Value} {d : DataW H} {p : List MemPlace} (h : DataW.trod enc Try.prog W 0 (fun _ => true) true fuel 43 cs = some (d, p)) :
    ∃ o : Opr, cs = [.int .i64 o.kind, .int .i64 o.a, .int .i64 o.b, .int .i64 o.st, .slice o.ro o.rn o.rc] ∧ OprOk (fun _ => True) W o := by
  obtain ⟨xs, n, _, hx, hl, hlen, hf⟩ := DataW.trod_struct Try.underlying43 h
  have hc5 : Try.prog.cellsOf 43 = 5 := by kernel_rfl
  rw [hc5] at hl
  have k3 : Try.prog.cellsOf 3 = 1 := by kernel_rfl
  have k9 : Try.prog.cellsOf 22 = 1 := by kernel_rfl
  obtain ⟨c0, c1, c2, c3, c4, rfl⟩ : ∃ c0 c1 c2 c3 c4, cs = [c0, c1, c2, c3, c4] := by
    match cs, hl with
    | [c0, c1, c2, c3, c4], _ => exact ⟨c0, c1, c2, c3, c4, rfl⟩
  obtain ⟨y0, y1, y2, y3, y4, rfl⟩ : ∃ y0 y1 y2 y3 y4, xs = [y0, y1, y2, y3, y4] := by
    match xs, hlen with
    | [y0, y1, y2, y3, y4], _ => exact ⟨y0, y1, y2, y3, y4, rfl⟩
  have g0 := hf 0 _ rfl
  have g1 := hf 1 _ rfl
  have g2 := hf 2 _ rfl
  have g3 := hf 3 _ rfl
  have g4 := hf 4 _ rfl
  simp [k3, k9] at g0 g1 g2 g3 g4
  obtain ⟨b0, e0, _, w0⟩ := DataW.trod_int Try.underlying3 g0
  obtain ⟨b1, e1, _, w1⟩ := DataW.trod_int Try.underlying3 g1
  obtain ⟨b2, e2, _, w2⟩ := DataW.trod_int Try.underlying3 g2
  obtain ⟨b3, e3, _, w3⟩ := DataW.trod_int Try.underlying3 g3
  injection e0 with e0
  injection e1 with e1
  injection e2 with e2
  injection e3 with e3
  subst e0; subst e1; subst e2; subst e3
  obtain ⟨ra, rn, rc, rfl⟩ : ∃ ra rn rc, c4 = .slice ra rn rc := by
    rcases open_slice Try.underlying22 g4 with ⟨hcs, _⟩ | ⟨a, l, c, m, n, D, Pl, hcs, _⟩
    · injection hcs with hcs; exact ⟨_, _, _, hcs⟩
    · injection hcs with hcs; exact ⟨_, _, _, hcs⟩
  obtain ⟨q1, L, Y, q2⟩ := open_runs (d := y4.1) (p := y4.2) g4
  exact ⟨⟨b0, b1, b2, b3, ra, rn, rc, L, Y⟩, rfl, wf_i64 w0, wf_i64 w1, wf_i64 w2, wf_i64 w3, q1, q2⟩
/-- A slice of calls. -/
theorem open_ops {fuel : Nat} {ao : Option Addr} {len cap : Nat} {d : DataW H} {p : List MemPlace} (h : DataW.trod enc Try.prog W 0 (fun _ => true) true fuel 28 [.slice ao len cap] = some (d, p)) :
    len ≤ maxLen ∧ ∃ O, OpsAt (fun _ => True) W ao len O := by
  have hc5 : Try.prog.cellsOf 43 = 5 := by kernel_rfl
  rcases open_slice Try.underlying28 h with ⟨hcs, _⟩ | ⟨a, l, c, m, n, D, Pl, hcs, _, hl, hml, hm, hx, hel⟩
  · injection hcs with hcs
    injection hcs with e1 e2 e3
    subst e2; subst e3
    exact ⟨by unfold maxLen; omega, fun _ => ⟨0, 0, 0, 0, none, 0, 0, fun _ => 0, fun _ => 0⟩, fun i hi => by omega⟩
  · injection hcs with hcs
    injection hcs with e1 e2 e3
    subst e1; subst e2; subst e3
    have hlm : len ≤ m := by rw [hm]; simp; exact hl
    refine ⟨by omega, ?_⟩
    have key : ∀ i, ∃ o : Opr, i < len → OprOk (fun _ => True) W o ∧ W.cell? (a.add (i * 5)) = some (.int .i64 o.kind) ∧ W.cell? ((a.add (i * 5)).add 1) = some (.int .i64 o.a) ∧ W.cell? ((a.add (i * 5)).add 2) = some (.int .i64 o.b) ∧ W.cell? ((a.add (i * 5)).add 3) = some (.int .i64 o.st) ∧ W.cell? ((a.add (i * 5)).add 4) = some (.slice o.ro o.rn o.rc) := by
      intro i
      by_cases hi : i < len
      · obtain ⟨cs', h1, h2⟩ := hel i (by omega)
        rw [hc5] at h1
        obtain ⟨o, rfl, hr⟩ := open_op h2
        obtain ⟨_, _, hg⟩ := World.cells?_some h1
        refine ⟨o, fun _ => ⟨hr, ?_, hg 1 (by omega), hg 2 (by omega), hg 3 (by omega), hg 4 (by omega)⟩⟩
        have := hg 0 (by omega)
        simpa [Addr.add] using this
      · exact ⟨⟨0, 0, 0, 0, none, 0, 0, fun _ => 0, fun _ => 0⟩, fun h => absurd h hi⟩
    obtain ⟨F, hF⟩ := Classical.axiomOfChoice key
    refine ⟨F, fun i hi => ?_⟩
    obtain ⟨k0, k1, k2, k3, k4, k5⟩ := hF i hi
    have hsp := spot_none (hF 0 (by omega)).2.1
    obtain ⟨b, off, sp⟩ := a
    have hsn : sp = none := by simpa [Addr.add] using hsp
    subst hsn
    simp only [Addr.add_lit] at k1 k2 k3 k4 k5
    exact ⟨k0, b, off, rfl, trivial, k1, k2, k3, k4, k5⟩
end
end Go.Proofs.Ytdchpiihjjjpfab
