/-
  What the statements of layer 11 are handed: keys, lists of keys, calls, as they lie in memory.
-/
import Derived.Test.YtmnnmnggakbipaaQy
import Derived.Deep.Slices
import Derived.SizedLaws
import Derived.OpenShut
namespace Go.Proofs.Ytmnnmnggakbipaa
open Go.RowKit Go.Deep
set_option linter.unusedSimpArgs false
set_option linter.unusedVariables false

theorem spot_none {w : World} {a : Addr} {v : Value} (h : w.cell? a = some v) : a.spot = none := by
  cases hs : a.spot with
  | none => rfl
  | some s =>
    exfalso
    unfold World.cell? at h
    split at h
    · simp [hs] at h
    · cases h
theorem wf_i64 {n : Int} (h : (Lit.int .i64 n).wf = true) : I64 n := by
  have h' : IntKind.i64.min ≤ n ∧ n ≤ 9223372036854775807 := by simpa [Lit.wf] using h
  exact ⟨h'.1, h'.2⟩

structure KvIs (W : World) (k : Kv) : Prop where
  kv : KvAt (fun _ => True) W k
  rn : k.rn ≤ maxLen ∧ k.rn ≤ k.rc
section
variable {H : Type} {enc : TypeId × Value → H} {W : World}
set_option maxRecDepth 100000 in
theorem open_run {fuel : Nat} {cs : List Value} {d : DataW H} {p : List MemPlace} (h : DataW.trod enc Try.prog W 0 (fun _ => true) true fuel 62 cs = some (d, p)) :
    ∃ l y : Int, cs = [.int .i64 l, .int .i64 y] ∧ I64 l ∧ I64 y := by
  obtain ⟨xs, n, _, hx, hl, hlen, hf⟩ := DataW.trod_struct Try.underlying62 h
  have hc2 : Try.prog.cellsOf 62 = 2 := by kernel_rfl
  rw [hc2] at hl
  have k3 : Try.prog.cellsOf 3 = 1 := by kernel_rfl
  obtain ⟨c0, c1, rfl⟩ : ∃ c0 c1, cs = [c0, c1] := by
    match cs, hl with
    | [c0, c1], _ => exact ⟨c0, c1, rfl⟩
  obtain ⟨y0, y1, rfl⟩ : ∃ y0 y1, xs = [y0, y1] := by
    match xs, hlen with
    | [y0, y1], _ => exact ⟨y0, y1, rfl⟩
  have g0 := hf 0 _ rfl
  have g1 := hf 1 _ rfl
  simp [k3] at g0 g1
  obtain ⟨b0, e0, _, w0⟩ := DataW.trod_int Try.underlying3 g0
  obtain ⟨b1, e1, _, w1⟩ := DataW.trod_int Try.underlying3 g1
  injection e0 with e0
  injection e1 with e1
  subst e0; subst e1
  exact ⟨b0, b1, rfl, wf_i64 w0, wf_i64 w1⟩
set_option maxRecDepth 100000 in
theorem open_runs {fuel : Nat} {ao : Option Addr} {len cap : Nat} {d : DataW H} {p : List MemPlace} (h : DataW.trod enc Try.prog W 0 (fun _ => true) true fuel 36 [.slice ao len cap] = some (d, p)) :
    len ≤ maxLen ∧ ∃ L Y, P2At (fun _ => True) W ao len L Y := by
  have hc2 : Try.prog.cellsOf 62 = 2 := by kernel_rfl
  rcases open_slice Try.underlying36 h with ⟨hcs, _⟩ | ⟨a, l, c, m, n, D, Pl, hcs, _, hl, hml, hm, hx, hel⟩
  · injection hcs with hcs
    injection hcs with e1 e2 e3
    subst e2; subst e3
    exact ⟨by unfold maxLen; omega, fun _ => 0, fun _ => 0, fun i hi => by omega⟩
  · injection hcs with hcs
    injection hcs with e1 e2 e3
    subst e1; subst e2; subst e3
    have hlm : len ≤ m := by rw [hm]; simp; exact hl
    refine ⟨by omega, ?_⟩
    have key : ∀ i, ∃ x : Int × Int, i < len → (I64 x.1 ∧ I64 x.2) ∧ W.cell? (a.add (i * 2)) = some (.int .i64 x.1) ∧ W.cell? ((a.add (i * 2)).add 1) = some (.int .i64 x.2) := by
      intro i
      by_cases hi : i < len
      · obtain ⟨cs', h1, h2⟩ := hel i (by omega)
        rw [hc2] at h1
        obtain ⟨l, y, rfl, hr⟩ := open_run h2
        obtain ⟨_, _, hg⟩ := World.cells?_some h1
        refine ⟨(l, y), fun _ => ⟨hr, ?_, hg 1 (by omega)⟩⟩
        have := hg 0 (by omega)
        simpa [Addr.add] using this
      · exact ⟨(0, 0), fun h => absurd h hi⟩
    obtain ⟨F, hF⟩ := Classical.axiomOfChoice key
    refine ⟨fun i => (F i).1, fun i => (F i).2, fun i hi => ?_⟩
    obtain ⟨k0, k1, k2⟩ := hF i hi
    have hsp := spot_none (hF 0 (by omega)).2.1
    obtain ⟨b, off, sp⟩ := a
    have hsn : sp = none := by simpa [Addr.add] using hsp
    subst hsn
    simp only [Addr.add_lit] at k1 k2
    exact ⟨k0, b, off, rfl, trivial, k1, k2⟩
set_option maxRecDepth 100000 in
theorem open_sett {fuel : Nat} {cs : List Value} {d : DataW H} {p : List MemPlace} (h : DataW.trod enc Try.prog W 0 (fun _ => true) true fuel 38 cs = some (d, p)) :
    ∃ s : Stg, cs = [.int .i64 s.t, .int .i64 s.l, .int .i64 s.a, .int .i64 s.d, .int .i64 s.z, .int .i64 s.o, .int .i64 s.i] := by
  obtain ⟨xs, nn, _, hx, hl, hlen, hf⟩ := DataW.trod_struct Try.underlying38 h
  have hcn : Try.prog.cellsOf 38 = 7 := by kernel_rfl
  rw [hcn] at hl
  have k3 : Try.prog.cellsOf 3 = 1 := by kernel_rfl
  obtain ⟨c0, c1, c2, c3, c4, c5, c6, rfl⟩ : ∃ c0 c1 c2 c3 c4 c5 c6, cs = [c0, c1, c2, c3, c4, c5, c6] := by
    match cs, hl with
    | [c0, c1, c2, c3, c4, c5, c6], _ => exact ⟨c0, c1, c2, c3, c4, c5, c6, rfl⟩
  obtain ⟨y0, y1, y2, y3, y4, y5, y6, rfl⟩ : ∃ y0 y1 y2 y3 y4 y5 y6, xs = [y0, y1, y2, y3, y4, y5, y6] := by
    match xs, hlen with
    | [y0, y1, y2, y3, y4, y5, y6], _ => exact ⟨y0, y1, y2, y3, y4, y5, y6, rfl⟩
  have g0 := hf 0 _ rfl
  have g1 := hf 1 _ rfl
  have g2 := hf 2 _ rfl
  have g3 := hf 3 _ rfl
  have g4 := hf 4 _ rfl
  have g5 := hf 5 _ rfl
  have g6 := hf 6 _ rfl
  simp [k3] at g0 g1 g2 g3 g4 g5 g6
  obtain ⟨b0, e0, _, w0⟩ := DataW.trod_int Try.underlying3 g0
  obtain ⟨b1, e1, _, w1⟩ := DataW.trod_int Try.underlying3 g1
  obtain ⟨b2, e2, _, w2⟩ := DataW.trod_int Try.underlying3 g2
  obtain ⟨b3, e3, _, w3⟩ := DataW.trod_int Try.underlying3 g3
  obtain ⟨b4, e4, _, w4⟩ := DataW.trod_int Try.underlying3 g4
  obtain ⟨b5, e5, _, w5⟩ := DataW.trod_int Try.underlying3 g5
  obtain ⟨b6, e6, _, w6⟩ := DataW.trod_int Try.underlying3 g6
  injection e0 with e0
  injection e1 with e1
  injection e2 with e2
  injection e3 with e3
  injection e4 with e4
  injection e5 with e5
  injection e6 with e6
  subst e0; subst e1; subst e2; subst e3; subst e4; subst e5; subst e6
  exact ⟨⟨b0, b1, b2, b3, b4, b5, b6⟩, rfl⟩
set_option maxRecDepth 100000 in
theorem open_key {fuel : Nat} {cs : List Value} {d : DataW H} {p : List MemPlace} (h : DataW.trod enc Try.prog W 0 (fun _ => true) true fuel 42 cs = some (d, p)) : ∃ k : Kv, cs = k.cells ∧ KvIs W k := by
  obtain ⟨xs, nn, _, hx, hl, hlen, hf⟩ := DataW.trod_struct Try.underlying42 h
  have hcn : Try.prog.cellsOf 42 = 11 := by kernel_rfl
  rw [hcn] at hl
  have k3 : Try.prog.cellsOf 3 = 1 := by kernel_rfl
  have k9 : Try.prog.cellsOf 9 = 1 := by kernel_rfl
  have kr : Try.prog.cellsOf 36 = 1 := by kernel_rfl
  have ks : Try.prog.cellsOf 38 = 7 := by kernel_rfl
  obtain ⟨c0, c1, c2, c3, c4, c5, c6, c7, c8, c9, c10, rfl⟩ : ∃ c0 c1 c2 c3 c4 c5 c6 c7 c8 c9 c10, cs = [c0, c1, c2, c3, c4, c5, c6, c7, c8, c9, c10] := by
    match cs, hl with
    | [c0, c1, c2, c3, c4, c5, c6, c7, c8, c9, c10], _ => exact ⟨c0, c1, c2, c3, c4, c5, c6, c7, c8, c9, c10, rfl⟩
  obtain ⟨y0, y1, y2, y3, y4, rfl⟩ : ∃ y0 y1 y2 y3 y4, xs = [y0, y1, y2, y3, y4] := by
    match xs, hlen with
    | [y0, y1, y2, y3, y4], _ => exact ⟨y0, y1, y2, y3, y4, rfl⟩
  have g0 := hf 0 _ rfl
  have g1 := hf 1 _ rfl
  have g2 := hf 2 _ rfl
  have g3 := hf 3 _ rfl
  have g4 := hf 4 _ rfl
  simp [k3, k9, kr, ks] at g0 g1 g2 g3 g4
  obtain ⟨b0, e0, x0, w0⟩ := DataW.trod_string Try.underlying9 g0
  obtain ⟨b2, e2, _, w2⟩ := DataW.trod_int Try.underlying3 g2
  obtain ⟨b3, e3, _, w3⟩ := DataW.trod_int Try.underlying3 g3
  injection e0 with e0
  injection e2 with e2
  injection e3 with e3
  subst e0; subst e2; subst e3
  obtain ⟨s, e⟩ := open_sett g4
  injection e with a1 e; injection e with a2 e; injection e with a3 e; injection e with a4 e; injection e with a5 e; injection e with a6 e; injection e with a7 e
  subst a1; subst a2; subst a3; subst a4; subst a5; subst a6; subst a7
  obtain ⟨ra, rn, rc, rfl⟩ : ∃ ra rn rc, c1 = .slice ra rn rc := by
    rcases open_slice Try.underlying36 g1 with ⟨hcs, _⟩ | ⟨a, l, c, m, n, D, Pl, hcs, _⟩
    · injection hcs with hcs; exact ⟨_, _, _, hcs⟩
    · injection hcs with hcs; exact ⟨_, _, _, hcs⟩
  obtain ⟨q1, L, Y, q2⟩ := open_runs g1
  exact ⟨⟨b0, ra, rn, rc, b2, b3, s, L, Y⟩, rfl, q2, q1, open_cap g1⟩
set_option maxRecDepth 100000 in
theorem key_value {fuel : Nat} {v : Value} {d : DataW H} {p : List MemPlace} (h : DataW.trod enc Try.prog W 0 (fun _ => true) true fuel 42 v.cells.toList = some (d, p)) : ∃ k : Kv, v = k.val ∧ KvIs W k := by
  obtain ⟨k, e, hk⟩ := open_key h
  refine ⟨k, ?_, hk⟩
  unfold Kv.cells at e
  cases v <;> simp [Value.cells] at e
  rename_i cs
  have e' : cs = #[.string k.tx, .slice k.ra k.rn k.rc, .int .i64 k.ta, .int .i64 k.wd, .int .i64 k.s.t, .int .i64 k.s.l, .int .i64 k.s.a, .int .i64 k.s.d, .int .i64 k.s.z, .int .i64 k.s.o, .int .i64 k.s.i] := Array.ext' e
  rw [e']
  rfl
def Kv.zero : Kv := ⟨⟨#[]⟩, none, 0, 0, 0, 0, ⟨0, 0, 0, 0, 0, 0, 0⟩, fun _ => 0, fun _ => 0⟩
/-- Keys in a row, wherever they lie. -/
def KsAt (w : World) (ao : Option Addr) (n : Nat) (K : Nat → Kv) : Prop := ∀ i, i < n → (KvAt (fun _ => True) w (K i) ∧ (K i).rn ≤ (K i).rc) ∧ ∃ b off, ao = some ⟨b, off, none⟩ ∧ ∀ j u, (K i).cells[j]? = some u → w.cell? ⟨b, off + i * 11 + j, none⟩ = some u
set_option maxRecDepth 100000 in
theorem open_keys {fuel : Nat} {ao : Option Addr} {len cap : Nat} {d : DataW H} {p : List MemPlace} (h : DataW.trod enc Try.prog W 0 (fun _ => true) true fuel 30 [.slice ao len cap] = some (d, p)) :
    len ≤ maxLen ∧ ∃ K, KsAt W ao len K := by
  have hc9 : Try.prog.cellsOf 42 = 11 := by kernel_rfl
  rcases open_slice Try.underlying30 h with ⟨hcs, _⟩ | ⟨a, l, c, m, n, D, Pl, hcs, _, hl, hml, hm, hx, hel⟩
  · injection hcs with hcs
    injection hcs with e1 e2 e3
    subst e2; subst e3
    exact ⟨by unfold maxLen; omega, fun _ => Kv.zero, fun i hi => by omega⟩
  · injection hcs with hcs
    injection hcs with e1 e2 e3
    subst e1; subst e2; subst e3
    have hlm : len ≤ m := by rw [hm]; simp; exact hl
    refine ⟨by omega, ?_⟩
    have key : ∀ i, ∃ x : Kv, i < len → KvIs W x ∧ ∀ j u, x.cells[j]? = some u → W.cell? ((a.add (i * 11)).add j) = some u := by
      intro i
      by_cases hi : i < len
      · obtain ⟨cs', h1, h2⟩ := hel i (by omega)
        rw [hc9] at h1
        obtain ⟨x, rfl, hr⟩ := open_key h2
        obtain ⟨_, _, hg⟩ := World.cells?_some h1
        refine ⟨x, fun _ => ⟨hr, fun j u hj => ?_⟩⟩
        have := hg j (by have := (List.getElem?_eq_some_iff.1 hj).1; simpa [Kv.cells] using this)
        rw [this, hj]
      · exact ⟨Kv.zero, fun h => absurd h hi⟩
    obtain ⟨F, hF⟩ := Classical.axiomOfChoice key
    refine ⟨F, fun i hi => ?_⟩
    obtain ⟨k0, k1⟩ := hF i hi
    have hsp := spot_none ((hF 0 (by omega)).2 0 _ rfl)
    obtain ⟨b, off, sp⟩ := a
    have hsn : sp = none := by simpa [Addr.add] using hsp
    subst hsn
    simp only [Addr.add_lit] at k1
    exact ⟨⟨k0.kv, k0.rn.2⟩, b, off, rfl, k1⟩
def Opr.cells (o : Opr) : List Value := .int .i64 o.kd :: (o.k.cells ++ [.int .i64 o.v])
set_option maxRecDepth 100000 in
theorem open_op {fuel : Nat} {cs : List Value} {d : DataW H} {p : List MemPlace} (h : DataW.trod enc Try.prog W 0 (fun _ => true) true fuel 69 cs = some (d, p)) : ∃ o : Opr, cs = o.cells ∧ KvIs W o.k := by
  obtain ⟨xs, nn, _, hx, hl, hlen, hf⟩ := DataW.trod_struct Try.underlying69 h
  have hcn : Try.prog.cellsOf 69 = 13 := by kernel_rfl
  rw [hcn] at hl
  have k3 : Try.prog.cellsOf 3 = 1 := by kernel_rfl
  have kk : Try.prog.cellsOf 42 = 11 := by kernel_rfl
  obtain ⟨c0, c1, c2, c3, c4, c5, c6, c7, c8, c9, c10, c11, c12, rfl⟩ : ∃ c0 c1 c2 c3 c4 c5 c6 c7 c8 c9 c10 c11 c12, cs = [c0, c1, c2, c3, c4, c5, c6, c7, c8, c9, c10, c11, c12] := by
    match cs, hl with
    | [c0, c1, c2, c3, c4, c5, c6, c7, c8, c9, c10, c11, c12], _ => exact ⟨c0, c1, c2, c3, c4, c5, c6, c7, c8, c9, c10, c11, c12, rfl⟩
  obtain ⟨y0, y1, y2, rfl⟩ : ∃ y0 y1 y2, xs = [y0, y1, y2] := by
    match xs, hlen with
    | [y0, y1, y2], _ => exact ⟨y0, y1, y2, rfl⟩
  have g0 := hf 0 _ rfl
  have g1 := hf 1 _ rfl
  have g2 := hf 2 _ rfl
  simp [k3, kk] at g0 g1 g2
  obtain ⟨b0, e0, _, w0⟩ := DataW.trod_int Try.underlying3 g0
  obtain ⟨b2, e2, _, w2⟩ := DataW.trod_int Try.underlying3 g2
  obtain ⟨k, e1, hk⟩ := open_key g1
  injection e0 with e0
  injection e2 with e2
  subst e0; subst e2
  exact ⟨⟨b0, k, b2⟩, by unfold Opr.cells; rw [← e1]; rfl, hk⟩
set_option maxRecDepth 100000 in
theorem open_ops {fuel : Nat} {ao : Option Addr} {len cap : Nat} {d : DataW H} {p : List MemPlace} (h : DataW.trod enc Try.prog W 0 (fun _ => true) true fuel 22 [.slice ao len cap] = some (d, p)) :
    len ≤ maxLen ∧ ∃ O, OpsAt W ao len O := by
  have hc9 : Try.prog.cellsOf 69 = 13 := by kernel_rfl
  rcases open_slice Try.underlying22 h with ⟨hcs, _⟩ | ⟨a, l, c, m, n, D, Pl, hcs, _, hl, hml, hm, hx, hel⟩
  · injection hcs with hcs
    injection hcs with e1 e2 e3
    subst e2; subst e3
    exact ⟨by unfold maxLen; omega, fun _ => ⟨0, Kv.zero, 0⟩, fun i hi => by omega⟩
  · injection hcs with hcs
    injection hcs with e1 e2 e3
    subst e1; subst e2; subst e3
    have hlm : len ≤ m := by rw [hm]; simp; exact hl
    refine ⟨by omega, ?_⟩
    have key : ∀ i, ∃ x : Opr, i < len → KvIs W x.k ∧ ∀ j u, x.cells[j]? = some u → W.cell? ((a.add (i * 13)).add j) = some u := by
      intro i
      by_cases hi : i < len
      · obtain ⟨cs', h1, h2⟩ := hel i (by omega)
        rw [hc9] at h1
        obtain ⟨x, rfl, hr⟩ := open_op h2
        obtain ⟨_, _, hg⟩ := World.cells?_some h1
        refine ⟨x, fun _ => ⟨hr, fun j u hj => ?_⟩⟩
        have := hg j (by have := (List.getElem?_eq_some_iff.1 hj).1; simpa [Opr.cells, Kv.cells] using this)
        rw [this, hj]
      · exact ⟨⟨0, Kv.zero, 0⟩, fun h => absurd h hi⟩
    obtain ⟨F, hF⟩ := Classical.axiomOfChoice key
    refine ⟨F, fun i hi => ?_⟩
    obtain ⟨k0, k1⟩ := hF i hi
    have hsp := spot_none ((hF 0 (by omega)).2 0 _ rfl)
    obtain ⟨b, off, sp⟩ := a
    have hsn : sp = none := by simpa [Addr.add] using hsp
    subst hsn
    simp only [Addr.add_lit] at k1
    exact ⟨⟨k0.kv, k0.rn.2⟩, b, off, rfl, k1 0 _ rfl, k1 1 _ rfl, k1 2 _ rfl, k1 3 _ rfl, k1 4 _ rfl, k1 5 _ rfl, k1 6 _ rfl, k1 7 _ rfl, k1 8 _ rfl, k1 9 _ rfl, k1 10 _ rfl, k1 11 _ rfl, k1 12 _ rfl⟩
end
end Go.Proofs.Ytmnnmnggakbipaa
