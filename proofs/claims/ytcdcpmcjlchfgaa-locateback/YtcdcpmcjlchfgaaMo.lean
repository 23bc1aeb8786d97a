/-
  Styles and runs as they are handed in: what the reading of such a slice gives.
-/
import Derived.Deep.Slices
import Derived.SizedLaws
import Derived.OpenShut
import Derived.Test.YtcdcpmcjlchfgaaMf
namespace Go.Proofs.Ytcdcpmcjlchfgaa
open Go.RowKit Go.Deep
set_option linter.unusedSimpArgs false
set_option linter.unusedVariables false

theorem spot_none {w : World} {a : Addr} {v : Value} (h : w.cell? a = some v) : a.spot = none := by
  cases hs : a.spot with
  | none => rfl
  | some s =>
    exfalso
    unfold World.cell? at h
    split at h
    · simp [hs] at h
    · cases h
theorem wf_i64 {n : Int} (h : (Lit.int .i64 n).wf = true) : I64 n := by
  have h' : IntKind.i64.min ≤ n ∧ n ≤ 9223372036854775807 := by simpa [Lit.wf] using h
  exact ⟨h'.1, h'.2⟩
theorem weights_all {H : Type} {P : Program} {e : TypeId} {l : List (DataW H)} {d : DataW H} (h : d ∈ l) : ∀ n ∈ d.weights P e, n ∈ DataW.weightsAll P e l := by
  induction l with
  | nil => cases h
  | cons x r ih =>
    intro n hn
    simp only [DataW.weightsAll, List.mem_append]
    cases List.mem_cons.1 h with
    | inl e => subst e; exact Or.inl hn
    | inr e => exact Or.inr (ih e n hn)

section
variable {H : Type} {enc : TypeId × Value → H} {W : World}

set_option maxRecDepth 100000 in
/-- One range. -/
theorem open_range {fuel : Nat} {cs : List Value} {d : DataW H} {p : List MemPlace} (h : DataW.trod enc Try.prog W 0 (fun _ => true) true fuel 110 cs = some (d, p)) :
    ∃ r : Rg, cs = [.int .i64 r.lo, .int .i64 r.hi, .int .i64 r.wd] ∧ RgOk r := by
  obtain ⟨xs, n, _, hx, hl, hlen, hf⟩ := DataW.trod_struct Try.underlying110 h
  have hc3 : Try.prog.cellsOf 110 = 3 := by kernel_rfl
  rw [hc3] at hl
  have k3 : Try.prog.cellsOf 3 = 1 := by kernel_rfl
  obtain ⟨c0, c1, c2, rfl⟩ : ∃ c0 c1 c2, cs = [c0, c1, c2] := by
    match cs, hl with
    | [c0, c1, c2], _ => exact ⟨c0, c1, c2, rfl⟩
  obtain ⟨y0, y1, y2, rfl⟩ : ∃ y0 y1 y2, xs = [y0, y1, y2] := by
    match xs, hlen with
    | [y0, y1, y2], _ => exact ⟨y0, y1, y2, rfl⟩
  have g0 := hf 0 _ rfl
  have g1 := hf 1 _ rfl
  have g2 := hf 2 _ rfl
  simp [k3] at g0 g1 g2
  obtain ⟨b0, e0, _, w0⟩ := DataW.trod_int Try.underlying3 g0
  obtain ⟨b1, e1, _, w1⟩ := DataW.trod_int Try.underlying3 g1
  obtain ⟨b2, e2, _, w2⟩ := DataW.trod_int Try.underlying3 g2
  injection e0 with e0
  injection e1 with e1
  injection e2 with e2
  subst e0; subst e1; subst e2
  exact ⟨⟨b0, b1, b2⟩, rfl, wf_i64 w0, wf_i64 w1, wf_i64 w2⟩

/-- A slice of ranges. -/
theorem open_ranges {fuel : Nat} {ao : Option Addr} {len cap : Nat} {d : DataW H} {p : List MemPlace} (h : DataW.trod enc Try.prog W 0 (fun _ => true) true fuel 71 [.slice ao len cap] = some (d, p)) (hw : ∀ n ∈ d.weights Try.prog 71, n ≤ reachBytes) :
    (len ≤ cap ∧ len * 24 ≤ 140737488351232) ∧ (ao = none → len = 0 ∧ cap = 0) ∧ ∃ R, RgsAt (fun _ => True) W ao len R := by
  have hc3 : Try.prog.cellsOf 110 = 3 := by kernel_rfl
  rcases open_slice Try.underlying71 h with ⟨hcs, _⟩ | ⟨a, l, c, m, n, D, Pl, hcs, _, hl, _, hm, hx, hel⟩
  · injection hcs with hcs
    injection hcs with e1 e2 e3
    subst e2; subst e3
    exact ⟨⟨Nat.le_refl _, by omega⟩, fun _ => ⟨rfl, rfl⟩, fun _ => ⟨0, 0, 0⟩, fun i hi => by omega⟩
  · injection hcs with hcs
    injection hcs with e1 e2 e3
    subst e1; subst e2; subst e3
    injection hx with hx1 hx2
    have hlm : len ≤ m := by rw [hm]; simp; exact hl
    have hby : Try.prog.bytesOf 110 = 24 := by kernel_rfl
    have hsz := hw ((((List.range len).map D).length + ((List.range (m - len)).map fun j => D (len + j)).length) * Try.prog.bytesOf 110) (by rw [hx1]; simp [DataW.weights, Try.underlying71])
    rw [hby] at hsz
    simp only [List.length_map, List.length_range, reachBytes] at hsz
    refine ⟨⟨hl, by omega⟩, (fun h => by cases h), ?_⟩
    have key : ∀ i, ∃ r : Rg, i < len → RgOk r ∧ W.cell? (a.add (i * 3)) = some (.int .i64 r.lo) ∧ W.cell? ((a.add (i * 3)).add 1) = some (.int .i64 r.hi) ∧ W.cell? ((a.add (i * 3)).add 2) = some (.int .i64 r.wd) := by
      intro i
      by_cases hi : i < len
      · obtain ⟨cs', h1, h2⟩ := hel i (by omega)
        rw [hc3] at h1
        obtain ⟨r, rfl, hr⟩ := open_range h2
        obtain ⟨_, _, hg⟩ := World.cells?_some h1
        refine ⟨r, fun _ => ⟨hr, ?_, hg 1 (by omega), hg 2 (by omega)⟩⟩
        have := hg 0 (by omega)
        simpa [Addr.add] using this
      · exact ⟨⟨0, 0, 0⟩, fun h => absurd h hi⟩
    obtain ⟨R, hR⟩ : ∃ R : Nat → Rg, ∀ i, i < len → RgOk (R i) ∧ W.cell? (a.add (i * 3)) = some (.int .i64 (R i).lo) ∧ W.cell? ((a.add (i * 3)).add 1) = some (.int .i64 (R i).hi) ∧ W.cell? ((a.add (i * 3)).add 2) = some (.int .i64 (R i).wd) :=
      ⟨fun i => Classical.choose (key i), fun i => Classical.choose_spec (key i)⟩
    refine ⟨R, fun i hi => ?_⟩
    obtain ⟨k0, k1, k2, k3⟩ := hR i hi
    have hsp := spot_none (hR 0 (by omega)).2.1
    obtain ⟨b, off, sp⟩ := a
    have hsn : sp = none := by simpa [Addr.add] using hsp
    subst hsn
    simp only [Addr.add_lit] at k1 k2 k3
    exact ⟨k0, b, off, rfl, trivial, k1, k2, k3⟩

set_option maxRecDepth 100000 in
/-- One style. -/
theorem open_style {fuel : Nat} {cs : List Value} {d : DataW H} {p : List MemPlace} (h : DataW.trod enc Try.prog W 0 (fun _ => true) true fuel 73 cs = some (d, p)) (hw : ∀ n ∈ d.weights Try.prog 73, n ≤ reachBytes) :
    ∃ s : Sty, cs = [.int .i64 s.h, .int .i64 s.sp, .int .i64 s.st, .int .i64 s.sh, .int .i64 s.hy, .int .i64 s.ot, .slice s.ra s.rn s.rc, .bool s.keep] ∧ StyOk s ∧ RgsAt (fun _ => True) W s.ra s.rn s.R := by
  obtain ⟨xs, n, _, hx, hl, hlen, hf⟩ := DataW.trod_struct Try.underlying73 h
  have hc8 : Try.prog.cellsOf 73 = 8 := by kernel_rfl
  rw [hc8] at hl
  have k3 : Try.prog.cellsOf 3 = 1 := by kernel_rfl
  have k4 : Try.prog.cellsOf 4 = 1 := by kernel_rfl
  have k9 : Try.prog.cellsOf 71 = 1 := by kernel_rfl
  obtain ⟨c0, c1, c2, c3, c4, c5, c6, c7, rfl⟩ : ∃ c0 c1 c2 c3 c4 c5 c6 c7, cs = [c0, c1, c2, c3, c4, c5, c6, c7] := by
    match cs, hl with
    | [c0, c1, c2, c3, c4, c5, c6, c7], _ => exact ⟨c0, c1, c2, c3, c4, c5, c6, c7, rfl⟩
  obtain ⟨y0, y1, y2, y3, y4, y5, y6, y7, rfl⟩ : ∃ y0 y1 y2 y3 y4 y5 y6 y7, xs = [y0, y1, y2, y3, y4, y5, y6, y7] := by
    match xs, hlen with
    | [y0, y1, y2, y3, y4, y5, y6, y7], _ => exact ⟨y0, y1, y2, y3, y4, y5, y6, y7, rfl⟩
  have g0 := hf 0 _ rfl
  have g1 := hf 1 _ rfl
  have g2 := hf 2 _ rfl
  have g3 := hf 3 _ rfl
  have g4 := hf 4 _ rfl
  have g5 := hf 5 _ rfl
  have g6 := hf 6 _ rfl
  have g7 := hf 7 _ rfl
  simp [k3, k4, k9] at g0 g1 g2 g3 g4 g5 g6 g7
  obtain ⟨b0, e0, _, w0⟩ := DataW.trod_int Try.underlying3 g0
  obtain ⟨b1, e1, _, w1⟩ := DataW.trod_int Try.underlying3 g1
  obtain ⟨b2, e2, _, w2⟩ := DataW.trod_int Try.underlying3 g2
  obtain ⟨b3, e3, _, w3⟩ := DataW.trod_int Try.underlying3 g3
  obtain ⟨b4, e4, _, w4⟩ := DataW.trod_int Try.underlying3 g4
  obtain ⟨b5, e5, _, w5⟩ := DataW.trod_int Try.underlying3 g5
  obtain ⟨b7, e7, _⟩ := DataW.trod_bool Try.underlying4 g7
  injection e0 with e0
  injection e1 with e1
  injection e2 with e2
  injection e3 with e3
  injection e4 with e4
  injection e5 with e5
  injection e7 with e7
  subst e0; subst e1; subst e2; subst e3; subst e4; subst e5; subst e7
  injection hx with hx1 hx2
  subst hx1
  obtain ⟨ra, rn, rc, rfl⟩ : ∃ ra rn rc, c6 = .slice ra rn rc := by
    rcases open_slice Try.underlying71 g6 with ⟨hcs, _⟩ | ⟨a, l, c, m, n, D, Pl, hcs, _⟩
    · injection hcs with hcs; exact ⟨_, _, _, hcs⟩
    · injection hcs with hcs; exact ⟨_, _, _, hcs⟩
  have h6 := open_ranges (d := y6.1) (p := y6.2) g6 (fun n hn => hw n (by
    simp only [DataW.weights, Try.underlying73]
    exact DataW.weights_mem_each (j := 6) rfl rfl n hn))
  obtain ⟨q1, q2, R, q3⟩ := h6
  exact ⟨⟨b0, b1, b2, b3, b4, b5, ra, rn, rc, b7, R⟩, rfl, ⟨wf_i64 w0, wf_i64 w1, wf_i64 w2, wf_i64 w3, wf_i64 w4, wf_i64 w5, q1, q2⟩, q3⟩

/-- A slice of styles. -/
theorem open_styles {fuel : Nat} {ao : Option Addr} {len cap : Nat} {d : DataW H} {p : List MemPlace} (h : DataW.trod enc Try.prog W 0 (fun _ => true) true fuel 38 [.slice ao len cap] = some (d, p)) (hw : ∀ n ∈ d.weights Try.prog 38, n ≤ reachBytes) :
    (len ≤ cap ∧ cap * 80 ≤ 140737488351232) ∧ (ao = none → len = 0 ∧ cap = 0) ∧ ∃ F, StysAt (fun _ => True) W ao len F := by
  have hc8 : Try.prog.cellsOf 73 = 8 := by kernel_rfl
  rcases open_slice Try.underlying38 h with ⟨hcs, _⟩ | ⟨a, l, c, m, n, D, Pl, hcs, _, hl, _, hm, hx, hel⟩
  · injection hcs with hcs
    injection hcs with e1 e2 e3
    subst e2; subst e3
    exact ⟨⟨Nat.le_refl _, by omega⟩, fun _ => ⟨rfl, rfl⟩, fun _ => ⟨0, 0, 0, 0, 0, 0, none, 0, 0, false, fun _ => ⟨0, 0, 0⟩⟩, fun i hi => by omega⟩
  · injection hcs with hcs
    injection hcs with e1 e2 e3
    subst e1; subst e2; subst e3
    injection hx with hx1 hx2
    have hlm : len ≤ m := by rw [hm]; simp; exact hl
    have hmc : m = cap := by rw [hm]; simp
    have hby : Try.prog.bytesOf 73 = 80 := by kernel_rfl
    have hsz := hw ((((List.range len).map D).length + ((List.range (m - len)).map fun j => D (len + j)).length) * Try.prog.bytesOf 73) (by rw [hx1]; simp [DataW.weights, Try.underlying38])
    rw [hby] at hsz
    simp only [List.length_map, List.length_range, reachBytes] at hsz
    refine ⟨⟨hl, by omega⟩, (fun h => by cases h), ?_⟩
    have key : ∀ i, ∃ s : Sty, i < len → (StyOk s ∧ RgsAt (fun _ => True) W s.ra s.rn s.R) ∧ W.cell? (a.add (i * 8)) = some (.int .i64 s.h) ∧ W.cell? ((a.add (i * 8)).add 1) = some (.int .i64 s.sp) ∧ W.cell? ((a.add (i * 8)).add 2) = some (.int .i64 s.st) ∧ W.cell? ((a.add (i * 8)).add 3) = some (.int .i64 s.sh) ∧
        W.cell? ((a.add (i * 8)).add 4) = some (.int .i64 s.hy) ∧ W.cell? ((a.add (i * 8)).add 5) = some (.int .i64 s.ot) ∧ W.cell? ((a.add (i * 8)).add 6) = some (.slice s.ra s.rn s.rc) ∧ W.cell? ((a.add (i * 8)).add 7) = some (.bool s.keep) := by
      intro i
      by_cases hi : i < len
      · obtain ⟨cs', h1, h2⟩ := hel i (by omega)
        rw [hc8] at h1
        obtain ⟨s, rfl, hs⟩ := open_style h2 (fun n hn => hw n (by
          rw [hx1]
          simp only [DataW.weights, Try.underlying38]
          refine List.mem_cons_of_mem _ (List.mem_append.2 (Or.inl ?_))
          exact weights_all (List.mem_map.2 ⟨i, by simpa using hi, rfl⟩) n hn))
        obtain ⟨_, _, hg⟩ := World.cells?_some h1
        refine ⟨s, fun _ => ⟨hs, ?_, hg 1 (by omega), hg 2 (by omega), hg 3 (by omega), hg 4 (by omega), hg 5 (by omega), hg 6 (by omega), hg 7 (by omega)⟩⟩
        have := hg 0 (by omega)
        simpa [Addr.add] using this
      · exact ⟨⟨0, 0, 0, 0, 0, 0, none, 0, 0, false, fun _ => ⟨0, 0, 0⟩⟩, fun h => absurd h hi⟩
    obtain ⟨F, hF⟩ := Classical.axiomOfChoice key
    refine ⟨F, fun i hi => ?_⟩
    obtain ⟨⟨k0, k0'⟩, k1, k2, k3, k4, k5, k6, k7, k8⟩ := hF i hi
    have hsp := spot_none (hF 0 (by omega)).2.1
    obtain ⟨b, off, sp⟩ := a
    have hsn : sp = none := by simpa [Addr.add] using hsp
    subst hsn
    simp only [Addr.add_lit] at k1 k2 k3 k4 k5 k6 k7 k8
    exact ⟨k0, k0', b, off, rfl, trivial, k1, k2, k3, k4, k5, k6, k7, k8⟩

/-- Runs as they lie in memory. -/
def RunsAt (w : World) (ao : Option Addr) (n : Nat) (L Y : Nat → Int) : Prop := ∀ i, i < n → (I64 (L i) ∧ I64 (Y i)) ∧ ∃ b off, ao = some ⟨b, off, none⟩ ∧ w.cell? ⟨b, off + i * 2, none⟩ = some (.int .i64 (L i)) ∧ w.cell? ⟨b, off + i * 2 + 1, none⟩ = some (.int .i64 (Y i))
theorem RunsAt.below {w w' : World} {ao : Option Addr} {n : Nat} {L Y : Nat → Int} (h : RunsAt w ao n L Y) (hb : Below w.heap.size w w') : RunsAt w' ao n L Y := by
  intro i hi
  obtain ⟨h1, b, off, e, c0, c1⟩ := h i hi
  exact ⟨h1, b, off, e, hold hb c0, hold hb c1⟩
set_option maxRecDepth 100000 in
theorem open_run {fuel : Nat} {cs : List Value} {d : DataW H} {p : List MemPlace} (h : DataW.trod enc Try.prog W 0 (fun _ => true) true fuel 75 cs = some (d, p)) :
    ∃ l y : Int, cs = [.int .i64 l, .int .i64 y] ∧ I64 l ∧ I64 y := by
  obtain ⟨xs, n, _, hx, hl, hlen, hf⟩ := DataW.trod_struct Try.underlying75 h
  have hc2 : Try.prog.cellsOf 75 = 2 := by kernel_rfl
  rw [hc2] at hl
  have k3 : Try.prog.cellsOf 3 = 1 := by kernel_rfl
  obtain ⟨c0, c1, rfl⟩ : ∃ c0 c1, cs = [c0, c1] := by
    match cs, hl with
    | [c0, c1], _ => exact ⟨c0, c1, rfl⟩
  obtain ⟨y0, y1, rfl⟩ : ∃ y0 y1, xs = [y0, y1] := by
    match xs, hlen with
    | [y0, y1], _ => exact ⟨y0, y1, rfl⟩
  have g0 := hf 0 _ rfl
  have g1 := hf 1 _ rfl
  simp [k3] at g0 g1
  obtain ⟨b0, e0, _, w0⟩ := DataW.trod_int Try.underlying3 g0
  obtain ⟨b1, e1, _, w1⟩ := DataW.trod_int Try.underlying3 g1
  injection e0 with e0
  injection e1 with e1
  subst e0; subst e1
  exact ⟨b0, b1, rfl, wf_i64 w0, wf_i64 w1⟩
theorem open_runs {fuel : Nat} {ao : Option Addr} {len cap : Nat} {d : DataW H} {p : List MemPlace} (h : DataW.trod enc Try.prog W 0 (fun _ => true) true fuel 39 [.slice ao len cap] = some (d, p)) :
    len ≤ maxLen ∧ ∃ L Y, RunsAt W ao len L Y := by
  have hc2 : Try.prog.cellsOf 75 = 2 := by kernel_rfl
  rcases open_slice Try.underlying39 h with ⟨hcs, _⟩ | ⟨a, l, c, m, n, D, Pl, hcs, _, hl, hml, hm, hx, hel⟩
  · injection hcs with hcs
    injection hcs with e1 e2 e3
    subst e2; subst e3
    exact ⟨by unfold maxLen; omega, fun _ => 0, fun _ => 0, fun i hi => by omega⟩
  · injection hcs with hcs
    injection hcs with e1 e2 e3
    subst e1; subst e2; subst e3
    have hlm : len ≤ m := by rw [hm]; simp; exact hl
    refine ⟨by omega, ?_⟩
    have key : ∀ i, ∃ x : Int × Int, i < len → (I64 x.1 ∧ I64 x.2) ∧ W.cell? (a.add (i * 2)) = some (.int .i64 x.1) ∧ W.cell? ((a.add (i * 2)).add 1) = some (.int .i64 x.2) := by
      intro i
      by_cases hi : i < len
      · obtain ⟨cs', h1, h2⟩ := hel i (by omega)
        rw [hc2] at h1
        obtain ⟨l, y, rfl, hr⟩ := open_run h2
        obtain ⟨_, _, hg⟩ := World.cells?_some h1
        refine ⟨(l, y), fun _ => ⟨hr, ?_, hg 1 (by omega)⟩⟩
        have := hg 0 (by omega)
        simpa [Addr.add] using this
      · exact ⟨(0, 0), fun h => absurd h hi⟩
    obtain ⟨F, hF⟩ := Classical.axiomOfChoice key
    refine ⟨fun i => (F i).1, fun i => (F i).2, fun i hi => ?_⟩
    obtain ⟨k0, k1, k2⟩ := hF i hi
    have hsp := spot_none (hF 0 (by omega)).2.1
    obtain ⟨b, off, sp⟩ := a
    have hsn : sp = none := by simpa [Addr.add] using hsp
    subst hsn
    simp only [Addr.add_lit] at k1 k2
    exact ⟨k0, b, off, rfl, k1, k2⟩
end
end Go.Proofs.Ytcdcpmcjlchfgaa
