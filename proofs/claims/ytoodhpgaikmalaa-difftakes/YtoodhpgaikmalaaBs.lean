/-
  What the laws are handed: pages and regions, as they lie in memory (by mkbs.py).
-/
import Derived.Test.YtoodhpgaikmalaaBg
import Derived.Deep.Slices
import Derived.SizedLaws
import Derived.OpenShut
namespace Go.Proofs.Ytoodhpgaikmalaa
open Go.RowKit Go.Deep
set_option linter.unusedSimpArgs false
set_option linter.unusedVariables false

theorem spot_none {w : World} {a : Addr} {v : Value} (h : w.cell? a = some v) : a.spot = none := by
  cases hs : a.spot with
  | none => rfl
  | some s =>
    exfalso
    unfold World.cell? at h
    split at h
    · simp [hs] at h
    · cases h
theorem wf_i64 {n : Int} (h : (Lit.int .i64 n).wf = true) : I64 n := by
  have h' : IntKind.i64.min ≤ n ∧ n ≤ 9223372036854775807 := by simpa [Lit.wf] using h
  exact ⟨h'.1, h'.2⟩
theorem weights_all {H : Type} {P : Program} {e : TypeId} {l : List (DataW H)} {d : DataW H} (h : d ∈ l) : ∀ n ∈ d.weights P e, n ∈ DataW.weightsAll P e l := by
  induction l with
  | nil => cases h
  | cons x r ih =>
    intro n hn
    simp only [DataW.weightsAll, List.mem_append]
    cases List.mem_cons.1 h with
    | inl e => subst e; exact Or.inl hn
    | inr e => exact Or.inr (ih e n hn)
structure LneR (x : Lne) : Prop where
  tx : x.tx.size ≤ maxLen
  rn : x.rn ≤ maxLen ∧ x.rn ≤ x.rc
  num : I64 x.num
  den : I64 x.den
  h : I64 x.h
  y : I64 x.y
section
variable {H : Type} {enc : TypeId × Value → H} {W : World}
set_option maxRecDepth 100000 in
theorem open_run {fuel : Nat} {cs : List Value} {d : DataW H} {p : List MemPlace} (h : DataW.trod enc Try.prog W 0 (fun _ => true) true fuel 58 cs = some (d, p)) :
    ∃ l y : Int, cs = [.int .i64 l, .int .i64 y] ∧ I64 l ∧ I64 y := by
  obtain ⟨xs, n, _, hx, hl, hlen, hf⟩ := DataW.trod_struct Try.underlying58 h
  have hc2 : Try.prog.cellsOf 58 = 2 := by kernel_rfl
  rw [hc2] at hl
  have k3 : Try.prog.cellsOf 3 = 1 := by kernel_rfl
  obtain ⟨c0, c1, rfl⟩ : ∃ c0 c1, cs = [c0, c1] := by
    match cs, hl with
    | [c0, c1], _ => exact ⟨c0, c1, rfl⟩
  obtain ⟨y0, y1, rfl⟩ : ∃ y0 y1, xs = [y0, y1] := by
    match xs, hlen with
    | [y0, y1], _ => exact ⟨y0, y1, rfl⟩
  have g0 := hf 0 _ rfl
  have g1 := hf 1 _ rfl
  simp [k3] at g0 g1
  obtain ⟨b0, e0, _, w0⟩ := DataW.trod_int Try.underlying3 g0
  obtain ⟨b1, e1, _, w1⟩ := DataW.trod_int Try.underlying3 g1
  injection e0 with e0
  injection e1 with e1
  subst e0; subst e1
  exact ⟨b0, b1, rfl, wf_i64 w0, wf_i64 w1⟩
set_option maxRecDepth 100000 in
theorem open_runs {fuel : Nat} {ao : Option Addr} {len cap : Nat} {d : DataW H} {p : List MemPlace} (h : DataW.trod enc Try.prog W 0 (fun _ => true) true fuel 35 [.slice ao len cap] = some (d, p)) :
    len ≤ maxLen ∧ ∃ L Y, P2At (fun _ => True) W ao len L Y := by
  have hc2 : Try.prog.cellsOf 58 = 2 := by kernel_rfl
  rcases open_slice Try.underlying35 h with ⟨hcs, _⟩ | ⟨a, l, c, m, n, D, Pl, hcs, _, hl, hml, hm, hx, hel⟩
  · injection hcs with hcs
    injection hcs with e1 e2 e3
    subst e2; subst e3
    exact ⟨by unfold maxLen; omega, fun _ => 0, fun _ => 0, fun i hi => by omega⟩
  · injection hcs with hcs
    injection hcs with e1 e2 e3
    subst e1; subst e2; subst e3
    have hlm : len ≤ m := by rw [hm]; simp; exact hl
    refine ⟨by omega, ?_⟩
    have key : ∀ i, ∃ x : Int × Int, i < len → (I64 x.1 ∧ I64 x.2) ∧ W.cell? (a.add (i * 2)) = some (.int .i64 x.1) ∧ W.cell? ((a.add (i * 2)).add 1) = some (.int .i64 x.2) := by
      intro i
      by_cases hi : i < len
      · obtain ⟨cs', h1, h2⟩ := hel i (by omega)
        rw [hc2] at h1
        obtain ⟨l, y, rfl, hr⟩ := open_run h2
        obtain ⟨_, _, hg⟩ := World.cells?_some h1
        refine ⟨(l, y), fun _ => ⟨hr, ?_, hg 1 (by omega)⟩⟩
        have := hg 0 (by omega)
        simpa [Addr.add] using this
      · exact ⟨(0, 0), fun h => absurd h hi⟩
    obtain ⟨F, hF⟩ := Classical.axiomOfChoice key
    refine ⟨fun i => (F i).1, fun i => (F i).2, fun i hi => ?_⟩
    obtain ⟨k0, k1, k2⟩ := hF i hi
    have hsp := spot_none (hF 0 (by omega)).2.1
    obtain ⟨b, off, sp⟩ := a
    have hsn : sp = none := by simpa [Addr.add] using hsp
    subst hsn
    simp only [Addr.add_lit] at k1 k2
    exact ⟨k0, b, off, rfl, trivial, k1, k2⟩
set_option maxRecDepth 100000 in
/-- One line. -/
theorem open_line {fuel : Nat} {cs : List Value} {d : DataW H} {p : List MemPlace} (h : DataW.trod enc Try.prog W 0 (fun _ => true) true fuel 37 cs = some (d, p)) :
    ∃ x : Lne, cs = x.cells ∧ LneR x ∧ P2At (fun _ => True) W x.ra x.rn x.L x.Y := by
  obtain ⟨xs, nn, _, hx, hl, hlen, hf⟩ := DataW.trod_struct Try.underlying37 h
  have hcn : Try.prog.cellsOf 37 = 9 := by kernel_rfl
  rw [hcn] at hl
  have k3 : Try.prog.cellsOf 3 = 1 := by kernel_rfl
  have k4 : Try.prog.cellsOf 4 = 1 := by kernel_rfl
  have k9 : Try.prog.cellsOf 9 = 1 := by kernel_rfl
  have kr : Try.prog.cellsOf 35 = 1 := by kernel_rfl
  obtain ⟨c0, c1, c2, c3, c4, c5, c6, c7, c8, rfl⟩ : ∃ c0 c1 c2 c3 c4 c5 c6 c7 c8, cs = [c0, c1, c2, c3, c4, c5, c6, c7, c8] := by
    match cs, hl with
    | [c0, c1, c2, c3, c4, c5, c6, c7, c8], _ => exact ⟨c0, c1, c2, c3, c4, c5, c6, c7, c8, rfl⟩
  obtain ⟨y0, y1, y2, y3, y4, y5, y6, y7, y8, rfl⟩ : ∃ y0 y1 y2 y3 y4 y5 y6 y7 y8, xs = [y0, y1, y2, y3, y4, y5, y6, y7, y8] := by
    match xs, hlen with
    | [y0, y1, y2, y3, y4, y5, y6, y7, y8], _ => exact ⟨y0, y1, y2, y3, y4, y5, y6, y7, y8, rfl⟩
  have g0 := hf 0 _ rfl
  have g1 := hf 1 _ rfl
  have g2 := hf 2 _ rfl
  have g3 := hf 3 _ rfl
  have g4 := hf 4 _ rfl
  have g5 := hf 5 _ rfl
  have g6 := hf 6 _ rfl
  have g7 := hf 7 _ rfl
  have g8 := hf 8 _ rfl
  simp [k3, k4, k9, kr] at g0 g1 g2 g3 g4 g5 g6 g7 g8
  obtain ⟨b0, e0, x0, w0⟩ := DataW.trod_string Try.underlying9 g0
  obtain ⟨b2, e2, _, w2⟩ := DataW.trod_int Try.underlying3 g2
  obtain ⟨b3, e3, _, w3⟩ := DataW.trod_int Try.underlying3 g3
  obtain ⟨b4, e4, _, w4⟩ := DataW.trod_int Try.underlying3 g4
  obtain ⟨b5, e5, _⟩ := DataW.trod_bool Try.underlying4 g5
  obtain ⟨b6, e6, _, w6⟩ := DataW.trod_int Try.underlying3 g6
  obtain ⟨b7, e7, _⟩ := DataW.trod_bool Try.underlying4 g7
  obtain ⟨b8, e8, _⟩ := DataW.trod_bool Try.underlying4 g8
  injection e0 with e0
  injection e2 with e2
  injection e3 with e3
  injection e4 with e4
  injection e5 with e5
  injection e6 with e6
  injection e7 with e7
  injection e8 with e8
  subst e0; subst e2; subst e3; subst e4; subst e5; subst e6; subst e7; subst e8
  obtain ⟨ra, rn, rc, rfl⟩ : ∃ ra rn rc, c1 = .slice ra rn rc := by
    rcases open_slice Try.underlying35 g1 with ⟨hcs, _⟩ | ⟨a, l, c, m, n, D, Pl, hcs, _⟩
    · injection hcs with hcs; exact ⟨_, _, _, hcs⟩
    · injection hcs with hcs; exact ⟨_, _, _, hcs⟩
  obtain ⟨q1, L, Y, q2⟩ := open_runs g1
  exact ⟨⟨b0, ra, rn, rc, b2, b3, b4, b5, b6, b7, b8, L, Y⟩, rfl, ⟨w0, ⟨q1, open_cap g1⟩, wf_i64 w2, wf_i64 w3, wf_i64 w4, wf_i64 w6⟩, q2⟩
set_option maxRecDepth 100000 in
/-- How long a line's text may be. -/
theorem line_text {fuel : Nat} {x : Lne} {d : DataW H} {p : List MemPlace} (h : DataW.trod enc Try.prog W 0 (fun _ => true) true fuel 37 x.cells = some (d, p)) (hw : ∀ n ∈ d.weights Try.prog 37, n ≤ reachBytes) : x.tx.size ≤ 140737488351232 := by
  obtain ⟨xs, nn, _, hx, hl, hlen, hf⟩ := DataW.trod_struct Try.underlying37 h
  have k9 : Try.prog.cellsOf 9 = 1 := by kernel_rfl
  obtain ⟨y0, y1, y2, y3, y4, y5, y6, y7, y8, rfl⟩ : ∃ y0 y1 y2 y3 y4 y5 y6 y7 y8, xs = [y0, y1, y2, y3, y4, y5, y6, y7, y8] := by
    match xs, hlen with
    | [y0, y1, y2, y3, y4, y5, y6, y7, y8], _ => exact ⟨y0, y1, y2, y3, y4, y5, y6, y7, y8, rfl⟩
  have g0 := hf 0 _ rfl
  simp [k9, Lne.cells] at g0
  obtain ⟨b0, e0, x0, w0⟩ := DataW.trod_string Try.underlying9 g0
  injection e0 with e0
  injection e0 with e0
  injection hx with hx1 hx2
  subst hx1
  have := hw b0.data.toList.length (by
    simp only [DataW.weights, Try.underlying37]
    exact DataW.weights_mem_each (j := 0) rfl rfl _ (by rw [x0]; simp [DataW.weights]))
  rw [e0]
  have e1 : b0.size = b0.data.toList.length := Array.length_toList.symm
  unfold reachBytes at this
  omega
/-- Lines. -/
theorem open_lines {fuel : Nat} {ao : Option Addr} {len cap : Nat} {d : DataW H} {p : List MemPlace} (h : DataW.trod enc Try.prog W 0 (fun _ => true) true fuel 32 [.slice ao len cap] = some (d, p)) (hw : ∀ n ∈ d.weights Try.prog 32, n ≤ reachBytes) :
    ∃ F, PgvOk ⟨ao, len, cap, F⟩ ∧ LnsAt (fun _ => True) W ao len F := by
  have hc9 : Try.prog.cellsOf 37 = 9 := by kernel_rfl
  rcases open_slice Try.underlying32 h with ⟨hcs, _⟩ | ⟨a, l, c, m, n, D, Pl, hcs, _, hl, hml, hm, hx, hel⟩
  · injection hcs with hcs
    injection hcs with e1 e2 e3
    subst e1; subst e2; subst e3
    exact ⟨fun _ => Lne.zero, ⟨by unfold maxLen; simp only; omega, ⟨Nat.le_refl _, fun _ => rfl⟩, fun i hi => by simp only at hi; omega⟩, fun i hi => by omega⟩
  · injection hcs with hcs
    injection hcs with e1 e2 e3
    subst e1; subst e2; subst e3
    have hlm : len ≤ m := by rw [hm]; simp; exact hl
    injection hx with hx1 hx2
    have key : ∀ i, ∃ x : Lne, i < len → ((LneR x ∧ x.tx.size ≤ 140737488351232) ∧ P2At (fun _ => True) W x.ra x.rn x.L x.Y) ∧ ∀ j, j < 9 → W.cell? ((a.add (i * 9)).add j) = x.cells[j]? := by
      intro i
      by_cases hi : i < len
      · obtain ⟨cs', h1, h2⟩ := hel i (by omega)
        rw [hc9] at h1
        obtain ⟨x, rfl, hr⟩ := open_line h2
        have htx := line_text h2 (fun n hn => hw n (by
          rw [hx1]
          simp only [DataW.weights, Try.underlying32]
          refine List.mem_cons_of_mem _ (List.mem_append.2 (Or.inl ?_))
          exact weights_all (List.mem_map.2 ⟨i, by simpa using hi, rfl⟩) n hn))
        obtain ⟨_, _, hg⟩ := World.cells?_some h1
        refine ⟨x, fun _ => ⟨⟨⟨hr.1, htx⟩, hr.2⟩, fun j hj => ?_⟩⟩
        have := hg j (by simpa [Lne.cells] using hj)
        rw [this]
      · exact ⟨Lne.zero, fun h => absurd h hi⟩
    obtain ⟨F, hF⟩ := Classical.axiomOfChoice key
    refine ⟨F, ⟨by simp only; omega, ⟨hl, fun e => by cases e⟩, fun i hi => ?_⟩, fun i hi => ?_⟩
    · obtain ⟨⟨k1, k2⟩, -⟩ := (hF i hi).1
      exact ⟨k2, k1.rn, k1.num, k1.den, k1.h, k1.y⟩
    obtain ⟨k0, k1⟩ := hF i hi
    have hsp := spot_none (v := .string (F 0).tx) ((hF 0 (by omega)).2 0 (by omega))
    obtain ⟨b, off, sp⟩ := a
    have hsn : sp = none := by simpa [Addr.add] using hsp
    subst hsn
    simp only [Addr.add_lit] at k1
    exact ⟨k0.2, b, off, rfl, trivial, k1 0 (by omega), k1 1 (by omega), k1 2 (by omega), k1 3 (by omega), k1 4 (by omega), k1 5 (by omega), k1 6 (by omega), k1 7 (by omega), k1 8 (by omega)⟩
set_option maxRecDepth 100000 in
/-- One page. -/
theorem open_page {fuel : Nat} {cs : List Value} {d : DataW H} {p : List MemPlace} (h : DataW.trod enc Try.prog W 0 (fun _ => true) true fuel 34 cs = some (d, p)) (hw : ∀ n ∈ d.weights Try.prog 34, n ≤ reachBytes) :
    ∃ v : Pgv, cs = [.slice v.la v.ln v.lc] ∧ PgvOk v ∧ LnsAt (fun _ => True) W v.la v.ln v.F := by
  obtain ⟨xs, nn, _, hx, hl, hlen, hf⟩ := DataW.trod_struct Try.underlying34 h
  have hcn : Try.prog.cellsOf 34 = 1 := by kernel_rfl
  rw [hcn] at hl
  have kr : Try.prog.cellsOf 32 = 1 := by kernel_rfl
  obtain ⟨c0, rfl⟩ : ∃ c0, cs = [c0] := by
    match cs, hl with
    | [c0], _ => exact ⟨c0, rfl⟩
  obtain ⟨y0, rfl⟩ : ∃ y0, xs = [y0] := by
    match xs, hlen with
    | [y0], _ => exact ⟨y0, rfl⟩
  have g0 := hf 0 _ rfl
  simp [kr] at g0
  obtain ⟨ra, rn, rc, rfl⟩ : ∃ ra rn rc, c0 = .slice ra rn rc := by
    rcases open_slice Try.underlying32 g0 with ⟨hcs, _⟩ | ⟨a, l, c, m, n, D, Pl, hcs, _⟩
    · injection hcs with hcs; exact ⟨_, _, _, hcs⟩
    · injection hcs with hcs; exact ⟨_, _, _, hcs⟩
  injection hx with hx1 hx2
  subst hx1
  obtain ⟨F, q1, q2⟩ := open_lines g0 (fun n hn => hw n (by
    simp only [DataW.weights, Try.underlying34]
    exact DataW.weights_mem_each (j := 0) rfl rfl _ hn))
  exact ⟨⟨ra, rn, rc, F⟩, rfl, q1, q2⟩
/-- Pages. -/
theorem open_pages {fuel : Nat} {ao : Option Addr} {len cap : Nat} {d : DataW H} {p : List MemPlace} (h : DataW.trod enc Try.prog W 0 (fun _ => true) true fuel 22 [.slice ao len cap] = some (d, p)) (hw : ∀ n ∈ d.weights Try.prog 22, n ≤ reachBytes) :
    (len ≤ maxLen ∧ Sl ao cap len) ∧ ∃ P, PgsR (fun _ => True) W ao len P := by
  have hc1 : Try.prog.cellsOf 34 = 1 := by kernel_rfl
  rcases open_slice Try.underlying22 h with ⟨hcs, _⟩ | ⟨a, l, c, m, n, D, Pl, hcs, _, hl, hml, hm, hx, hel⟩
  · injection hcs with hcs
    injection hcs with e1 e2 e3
    subst e1; subst e2; subst e3
    exact ⟨⟨by unfold maxLen; omega, ⟨Nat.le_refl _, fun _ => rfl⟩⟩, fun _ => ⟨none, 0, 0, fun _ => Lne.zero⟩, fun i hi => by omega⟩
  · injection hcs with hcs
    injection hcs with e1 e2 e3
    subst e1; subst e2; subst e3
    have hlm : len ≤ m := by rw [hm]; simp; exact hl
    refine ⟨⟨by omega, ⟨hl, fun e => by cases e⟩⟩, ?_⟩
    injection hx with hx1 hx2
    have key : ∀ i, ∃ v : Pgv, i < len → (PgvOk v ∧ LnsAt (fun _ => True) W v.la v.ln v.F) ∧ W.cell? (a.add i) = some (.slice v.la v.ln v.lc) := by
      intro i
      by_cases hi : i < len
      · obtain ⟨cs', h1, h2⟩ := hel i (by omega)
        rw [hc1, Nat.mul_one] at h1
        obtain ⟨v, rfl, hr⟩ := open_page h2 (fun n hn => hw n (by
          rw [hx1]
          simp only [DataW.weights, Try.underlying22]
          refine List.mem_cons_of_mem _ (List.mem_append.2 (Or.inl ?_))
          exact weights_all (List.mem_map.2 ⟨i, by simpa using hi, rfl⟩) n hn))
        obtain ⟨_, _, hg⟩ := World.cells?_some h1
        refine ⟨v, fun _ => ⟨hr, ?_⟩⟩
        have := hg 0 (by simp)
        simpa [Addr.add] using this
      · exact ⟨⟨none, 0, 0, fun _ => Lne.zero⟩, fun h => absurd h hi⟩
    obtain ⟨P, hP⟩ := Classical.axiomOfChoice key
    refine ⟨P, fun i hi => ?_⟩
    obtain ⟨⟨k0, k2⟩, k1⟩ := hP i hi
    have hsp := spot_none (hP 0 (by omega)).2
    obtain ⟨b, off, sp⟩ := a
    have hsn : sp = none := by simpa [Addr.add] using hsp
    subst hsn
    simp only [Addr.add_lit] at k1
    exact ⟨k0, k2, b, off, rfl, trivial, k1⟩
/-- A region as it comes in. -/
structure Rgv where
  pg : Int
  kd : Int
  fr : Int
  od : Int
  v : Pgv
def Rgv.cells (z : Rgv) : List Value := [.int .i64 z.pg, .int .i64 z.kd, .int .i64 z.fr, .int .i64 z.od, .slice z.v.la z.v.ln z.v.lc]
def RgvOk (z : Rgv) : Prop := (I64 z.pg ∧ I64 z.kd ∧ I64 z.fr ∧ I64 z.od) ∧ PgvOk z.v
def RgsR (S : Nat → Prop) (w : World) (ao : Option Addr) (n : Nat) (Z : Nat → Rgv) : Prop := ∀ i, i < n → RgvOk (Z i) ∧ LnsAt S w (Z i).v.la (Z i).v.ln (Z i).v.F ∧ ∃ b off, ao = some ⟨b, off, none⟩ ∧ S b ∧ ∀ j, j < 5 → w.cell? ⟨b, off + i * 5 + j, none⟩ = ((Z i).cells)[j]?
set_option maxRecDepth 100000 in
/-- One region. -/
theorem open_region {fuel : Nat} {cs : List Value} {d : DataW H} {p : List MemPlace} (h : DataW.trod enc Try.prog W 0 (fun _ => true) true fuel 39 cs = some (d, p)) (hw : ∀ n ∈ d.weights Try.prog 39, n ≤ reachBytes) :
    ∃ z : Rgv, cs = z.cells ∧ RgvOk z ∧ LnsAt (fun _ => True) W z.v.la z.v.ln z.v.F := by
  obtain ⟨xs, nn, _, hx, hl, hlen, hf⟩ := DataW.trod_struct Try.underlying39 h
  have hcn : Try.prog.cellsOf 39 = 5 := by kernel_rfl
  rw [hcn] at hl
  have k3 : Try.prog.cellsOf 3 = 1 := by kernel_rfl
  have kr : Try.prog.cellsOf 32 = 1 := by kernel_rfl
  obtain ⟨c0, c1, c2, c3, c4, rfl⟩ : ∃ c0 c1 c2 c3 c4, cs = [c0, c1, c2, c3, c4] := by
    match cs, hl with
    | [c0, c1, c2, c3, c4], _ => exact ⟨c0, c1, c2, c3, c4, rfl⟩
  obtain ⟨y0, y1, y2, y3, y4, rfl⟩ : ∃ y0 y1 y2 y3 y4, xs = [y0, y1, y2, y3, y4] := by
    match xs, hlen with
    | [y0, y1, y2, y3, y4], _ => exact ⟨y0, y1, y2, y3, y4, rfl⟩
  have g0 := hf 0 _ rfl
  have g1 := hf 1 _ rfl
  have g2 := hf 2 _ rfl
  have g3 := hf 3 _ rfl
  have g4 := hf 4 _ rfl
  simp [k3, kr] at g0 g1 g2 g3 g4
  obtain ⟨b0, e0, _, w0⟩ := DataW.trod_int Try.underlying3 g0
  obtain ⟨b1, e1, _, w1⟩ := DataW.trod_int Try.underlying3 g1
  obtain ⟨b2, e2, _, w2⟩ := DataW.trod_int Try.underlying3 g2
  obtain ⟨b3, e3, _, w3⟩ := DataW.trod_int Try.underlying3 g3
  injection e0 with e0
  injection e1 with e1
  injection e2 with e2
  injection e3 with e3
  subst e0; subst e1; subst e2; subst e3
  obtain ⟨ra, rn, rc, rfl⟩ : ∃ ra rn rc, c4 = .slice ra rn rc := by
    rcases open_slice Try.underlying32 g4 with ⟨hcs, _⟩ | ⟨a, l, c, m, n, D, Pl, hcs, _⟩
    · injection hcs with hcs; exact ⟨_, _, _, hcs⟩
    · injection hcs with hcs; exact ⟨_, _, _, hcs⟩
  injection hx with hx1 hx2
  subst hx1
  obtain ⟨F, q1, q2⟩ := open_lines g4 (fun n hn => hw n (by
    simp only [DataW.weights, Try.underlying39]
    exact DataW.weights_mem_each (j := 4) rfl rfl _ hn))
  exact ⟨⟨b0, b1, b2, b3, ⟨ra, rn, rc, F⟩⟩, rfl, ⟨⟨wf_i64 w0, wf_i64 w1, wf_i64 w2, wf_i64 w3⟩, q1⟩, q2⟩
/-- Regions. -/
theorem open_regions {fuel : Nat} {ao : Option Addr} {len cap : Nat} {d : DataW H} {p : List MemPlace} (h : DataW.trod enc Try.prog W 0 (fun _ => true) true fuel 26 [.slice ao len cap] = some (d, p)) (hw : ∀ n ∈ d.weights Try.prog 26, n ≤ reachBytes) :
    (len ≤ maxLen ∧ Sl ao cap len) ∧ ∃ Z, RgsR (fun _ => True) W ao len Z := by
  have hc5 : Try.prog.cellsOf 39 = 5 := by kernel_rfl
  rcases open_slice Try.underlying26 h with ⟨hcs, _⟩ | ⟨a, l, c, m, n, D, Pl, hcs, _, hl, hml, hm, hx, hel⟩
  · injection hcs with hcs
    injection hcs with e1 e2 e3
    subst e1; subst e2; subst e3
    exact ⟨⟨by unfold maxLen; omega, ⟨Nat.le_refl _, fun _ => rfl⟩⟩, fun _ => ⟨0, 0, 0, 0, ⟨none, 0, 0, fun _ => Lne.zero⟩⟩, fun i hi => by omega⟩
  · injection hcs with hcs
    injection hcs with e1 e2 e3
    subst e1; subst e2; subst e3
    have hlm : len ≤ m := by rw [hm]; simp; exact hl
    refine ⟨⟨by omega, ⟨hl, fun e => by cases e⟩⟩, ?_⟩
    injection hx with hx1 hx2
    have key : ∀ i, ∃ z : Rgv, i < len → (RgvOk z ∧ LnsAt (fun _ => True) W z.v.la z.v.ln z.v.F) ∧ ∀ j, j < 5 → W.cell? ((a.add (i * 5)).add j) = z.cells[j]? := by
      intro i
      by_cases hi : i < len
      · obtain ⟨cs', h1, h2⟩ := hel i (by omega)
        rw [hc5] at h1
        obtain ⟨z, rfl, hr⟩ := open_region h2 (fun n hn => hw n (by
          rw [hx1]
          simp only [DataW.weights, Try.underlying26]
          refine List.mem_cons_of_mem _ (List.mem_append.2 (Or.inl ?_))
          exact weights_all (List.mem_map.2 ⟨i, by simpa using hi, rfl⟩) n hn))
        obtain ⟨_, _, hg⟩ := World.cells?_some h1
        refine ⟨z, fun _ => ⟨hr, fun j hj => ?_⟩⟩
        have := hg j (by simpa [Rgv.cells] using hj)
        rw [this]
      · exact ⟨⟨0, 0, 0, 0, ⟨none, 0, 0, fun _ => Lne.zero⟩⟩, fun h => absurd h hi⟩
    obtain ⟨Z, hZ⟩ := Classical.axiomOfChoice key
    refine ⟨Z, fun i hi => ?_⟩
    obtain ⟨⟨k0, k2⟩, k1⟩ := hZ i hi
    have hsp := spot_none (v := .int .i64 (Z 0).pg) ((hZ 0 (by omega)).2 0 (by omega))
    obtain ⟨b, off, sp⟩ := a
    have hsn : sp = none := by simpa [Addr.add] using hsp
    subst hsn
    simp only [Addr.add_lit] at k1
    exact ⟨k0, k2, b, off, rfl, trivial, k1⟩
end
end Go.Proofs.Ytoodhpgaikmalaa
