/-
  What the statements of layer 13 are handed: lines with a height and settings, calls, rows of calls.
-/
import Derived.Test.YtdpjaafdpgkclaaHk
import Derived.Test.YtdpjaafdpgkclaaTs
namespace Go.Proofs.Ytdpjaafdpgkclaa
open Go.RowKit Go.Deep
set_option linter.unusedSimpArgs false
set_option linter.unusedVariables false

theorem SltsAt.here {S : Nat → Prop} {w : World} {ao : Option Addr} {n : Nat} {F : Nat → Slt} (h : SltsAt S w ao n F) : SltsAt (fun b => b < w.heap.size) w ao n F :=
  h.keep (fun b i u hs hc => ⟨World.block_lt_of_cell? w _ hc, hc⟩)
/-- A call: lines that go and come, or another height. -/
structure Op3 where
  f : Int
  d : Int
  bo : Option Addr
  m : Nat
  mc : Nat
  h : Int
  C : Nat → Slt
def Op3.val (o : Op3) : Value := .agg #[.int .i64 o.f, .int .i64 o.d, .slice o.bo o.m o.mc, .int .i64 o.h]
/-- What is known of a call that was handed in. -/
structure OpIs (w : World) (o : Op3) : Prop where
  f : I64 o.f
  d : I64 o.d
  h : I64 o.h
  m : o.m ≤ maxLen
  mc : o.m ≤ o.mc
  no : o.bo = none → o.mc = 0
  C : SltsAt (fun b => b < w.heap.size) w o.bo o.m o.C
theorem SltsAt.low {w w' : World} {B : Nat} {ao : Option Addr} {n : Nat} {F : Nat → Slt} (h : SltsAt (fun b => b < B) w ao n F) (hb : Below B w w') : SltsAt (fun b => b < B) w' ao n F :=
  h.keep (fun b i u hs hc => ⟨hs, by rw [hb.cell (p := ⟨b, i, none⟩) hs]; exact hc⟩)
/-- Calls as they lie in memory. -/
def OpsAt3 (w : World) (ao : Option Addr) (n : Nat) (O : Nat → Op3) : Prop := ∀ i, i < n → OpIs w (O i) ∧ ∃ b off, ao = some ⟨b, off, none⟩ ∧ w.cell? ⟨b, off + i * 4, none⟩ = some (.int .i64 (O i).f) ∧ w.cell? ⟨b, off + i * 4 + 1, none⟩ = some (.int .i64 (O i).d) ∧ w.cell? ⟨b, off + i * 4 + 2, none⟩ = some (.slice (O i).bo (O i).m (O i).mc) ∧ w.cell? ⟨b, off + i * 4 + 3, none⟩ = some (.int .i64 (O i).h)
section
variable {H : Type} {enc : TypeId × Value → H} {W : World}
set_option maxRecDepth 100000 in
theorem open_slot {fuel : Nat} {cs : List Value} {d : DataW H} {p : List MemPlace} (h : DataW.trod enc Try.prog W 0 (fun _ => true) true fuel 69 cs = some (d, p)) :
    ∃ x : Slt, cs = [.int .i64 x.h, .int .i64 x.i, .int .i64 x.c, .bool x.k] ∧ I64 x.h ∧ I64 x.i ∧ I64 x.c := by
  obtain ⟨xs, nn, _, hx, hl, hlen, hf⟩ := DataW.trod_struct Try.underlying69 h
  have hcn : Try.prog.cellsOf 69 = 4 := by kernel_rfl
  rw [hcn] at hl
  have k3 : Try.prog.cellsOf 3 = 1 := by kernel_rfl
  have k4 : Try.prog.cellsOf 4 = 1 := by kernel_rfl
  obtain ⟨c0, c1, c2, c3, rfl⟩ : ∃ c0 c1 c2 c3, cs = [c0, c1, c2, c3] := by
    match cs, hl with
    | [c0, c1, c2, c3], _ => exact ⟨c0, c1, c2, c3, rfl⟩
  obtain ⟨y0, y1, y2, y3, rfl⟩ : ∃ y0 y1 y2 y3, xs = [y0, y1, y2, y3] := by
    match xs, hlen with
    | [y0, y1, y2, y3], _ => exact ⟨y0, y1, y2, y3, rfl⟩
  have g0 := hf 0 _ rfl
  have g1 := hf 1 _ rfl
  have g2 := hf 2 _ rfl
  have g3 := hf 3 _ rfl
  simp [k3, k4] at g0 g1 g2 g3
  obtain ⟨b0, e0, _, w0⟩ := DataW.trod_int Try.underlying3 g0
  obtain ⟨b1, e1, _, w1⟩ := DataW.trod_int Try.underlying3 g1
  obtain ⟨b2, e2, _, w2⟩ := DataW.trod_int Try.underlying3 g2
  obtain ⟨b3, e3, _⟩ := DataW.trod_bool Try.underlying4 g3
  injection e0 with e0
  injection e1 with e1
  injection e2 with e2
  injection e3 with e3
  subst e0; subst e1; subst e2; subst e3
  exact ⟨⟨b0, b1, b2, b3⟩, rfl, wf_i64 w0, wf_i64 w1, wf_i64 w2⟩
theorem open_slots {fuel : Nat} {ao : Option Addr} {len cap : Nat} {d : DataW H} {p : List MemPlace} (h : DataW.trod enc Try.prog W 0 (fun _ => true) true fuel 22 [.slice ao len cap] = some (d, p)) :
    ((len ≤ maxLen ∧ len ≤ cap) ∧ (ao = none → cap = 0)) ∧ ∃ F, SltsAt (fun _ => True) W ao len F := by
  have hc4 : Try.prog.cellsOf 69 = 4 := by kernel_rfl
  rcases open_slice Try.underlying22 h with ⟨hcs, _⟩ | ⟨a, l, c, m, n, D, Pl, hcs, _, hl, hml, hm, hx, hel⟩
  · injection hcs with hcs
    injection hcs with e1 e2 e3
    subst e2; subst e3
    exact ⟨⟨⟨by unfold maxLen; omega, by omega⟩, fun _ => rfl⟩, fun _ => ⟨0, 0, 0, false⟩, fun i hi => by omega⟩
  · injection hcs with hcs
    injection hcs with e1 e2 e3
    subst e1; subst e2; subst e3
    have hlm : len ≤ m := by rw [hm]; simp; exact hl
    refine ⟨⟨⟨by omega, hl⟩, (fun e => by cases e)⟩, ?_⟩
    have key : ∀ i, ∃ x : Slt, i < len → (I64 x.h ∧ I64 x.i ∧ I64 x.c) ∧ ∀ j, j < 4 → W.cell? ((a.add (i * 4)).add j) = [Value.int .i64 x.h, .int .i64 x.i, .int .i64 x.c, .bool x.k][j]? := by
      intro i
      by_cases hi : i < len
      · obtain ⟨cs', h1, h2⟩ := hel i (by omega)
        rw [hc4] at h1
        obtain ⟨x, rfl, hr⟩ := open_slot h2
        obtain ⟨_, _, hg⟩ := World.cells?_some h1
        refine ⟨x, fun _ => ⟨hr, fun j hj => ?_⟩⟩
        have := hg j (by simpa using hj)
        rw [this]
      · exact ⟨⟨0, 0, 0, false⟩, fun h => absurd h hi⟩
    obtain ⟨F, hF⟩ := Classical.axiomOfChoice key
    refine ⟨F, fun i hi => ?_⟩
    obtain ⟨k0, k1⟩ := hF i hi
    have hsp := spot_none (v := .int .i64 (F 0).h) ((hF 0 (by omega)).2 0 (by omega))
    obtain ⟨b, off, sp⟩ := a
    have hsn : sp = none := by simpa [Addr.add] using hsp
    subst hsn
    simp only [Addr.add_lit] at k1
    exact ⟨k0, b, off, rfl, trivial, k1 0 (by omega), k1 1 (by omega), k1 2 (by omega), k1 3 (by omega)⟩
set_option maxRecDepth 100000 in
theorem start_value {fuel : Nat} {v : Value} {d : DataW H} {p : List MemPlace} (h : DataW.trod enc Try.prog W 0 (fun _ => true) true fuel 26 v.cells.toList = some (d, p)) :
    ∃ (ao : Option Addr) (n cap : Nat) (z : Int) (s : Stg) (F : Nat → Slt), v = rbv ao n cap z s ∧ ((n ≤ maxLen ∧ n ≤ cap) ∧ (ao = none → cap = 0)) ∧ SltsAt (fun _ => True) W ao n F ∧ I64 z ∧ I64 s.t ∧ I64 s.l ∧ I64 s.a ∧ I64 s.d ∧ I64 s.z ∧ I64 s.o ∧ I64 s.i := by
  obtain ⟨xs, nn, _, hx, hl, hlen, hf⟩ := DataW.trod_struct Try.underlying26 h
  have hcn : Try.prog.cellsOf 26 = 9 := by kernel_rfl
  rw [hcn] at hl
  have k3 : Try.prog.cellsOf 3 = 1 := by kernel_rfl
  have kr : Try.prog.cellsOf 22 = 1 := by kernel_rfl
  have ks : Try.prog.cellsOf 24 = 7 := by kernel_rfl
  generalize hcs : v.cells.toList = cs at *
  obtain ⟨c1, c2, c3, c4, c5, c6, c7, c8, c9, rfl⟩ : ∃ c1 c2 c3 c4 c5 c6 c7 c8 c9, cs = [c1, c2, c3, c4, c5, c6, c7, c8, c9] := by
    match cs, hl with
    | [c1, c2, c3, c4, c5, c6, c7, c8, c9], _ => exact ⟨c1, c2, c3, c4, c5, c6, c7, c8, c9, rfl⟩
  obtain ⟨y1, y2, y3, rfl⟩ : ∃ y1 y2 y3, xs = [y1, y2, y3] := by
    match xs, hlen with
    | [y1, y2, y3], _ => exact ⟨y1, y2, y3, rfl⟩
  have g1 := hf 0 _ rfl
  have g2 := hf 1 _ rfl
  have g3 := hf 2 _ rfl
  simp [k3, kr, ks] at g1 g2 g3
  obtain ⟨b2, e2, _, w2⟩ := DataW.trod_int Try.underlying3 g2
  injection e2 with e2
  subst e2
  obtain ⟨x, e, hxx⟩ := open_sett g3
  unfold Stg.cells at e
  injection e with e3 e
  injection e with e4 e
  injection e with e5 e
  injection e with e6 e
  injection e with e7 e
  injection e with e8 e
  injection e with e9 e
  subst e3; subst e4; subst e5; subst e6; subst e7; subst e8; subst e9
  obtain ⟨ra, rn, rc, rfl⟩ : ∃ ra rn rc, c1 = .slice ra rn rc := by
    rcases open_slice Try.underlying22 g1 with ⟨hcs, _⟩ | ⟨a, l, c, m, n, D, Pl, hcs, _⟩
    · injection hcs with hcs; exact ⟨_, _, _, hcs⟩
    · injection hcs with hcs; exact ⟨_, _, _, hcs⟩
  obtain ⟨q1, F, q2⟩ := open_slots g1
  refine ⟨ra, rn, rc, b2, x, F, ?_, q1, q2, wf_i64 w2, hxx⟩
  cases v <;> simp [Value.cells] at hcs
  rename_i cs
  have e' : cs = #[.slice ra rn rc, .int .i64 b2, .int .i64 x.t, .int .i64 x.l, .int .i64 x.a, .int .i64 x.d, .int .i64 x.z, .int .i64 x.o, .int .i64 x.i] := Array.ext' hcs
  rw [e']
  rfl
set_option maxRecDepth 100000 in
theorem open_op3 {fuel : Nat} {cs : List Value} {d : DataW H} {p : List MemPlace} (h : DataW.trod enc Try.prog W 0 (fun _ => true) true fuel 35 cs = some (d, p)) :
    ∃ o : Op3, cs = [.int .i64 o.f, .int .i64 o.d, .slice o.bo o.m o.mc, .int .i64 o.h] ∧ OpIs W o := by
  obtain ⟨xs, nn, _, hx, hl, hlen, hf⟩ := DataW.trod_struct Try.underlying35 h
  have hcn : Try.prog.cellsOf 35 = 4 := by kernel_rfl
  rw [hcn] at hl
  have k3 : Try.prog.cellsOf 3 = 1 := by kernel_rfl
  have kr : Try.prog.cellsOf 22 = 1 := by kernel_rfl
  obtain ⟨c0, c1, c2, c3, rfl⟩ : ∃ c0 c1 c2 c3, cs = [c0, c1, c2, c3] := by
    match cs, hl with
    | [c0, c1, c2, c3], _ => exact ⟨c0, c1, c2, c3, rfl⟩
  obtain ⟨y0, y1, y2, y3, rfl⟩ : ∃ y0 y1 y2 y3, xs = [y0, y1, y2, y3] := by
    match xs, hlen with
    | [y0, y1, y2, y3], _ => exact ⟨y0, y1, y2, y3, rfl⟩
  have g0 := hf 0 _ rfl
  have g1 := hf 1 _ rfl
  have g2 := hf 2 _ rfl
  have g3 := hf 3 _ rfl
  simp [k3, kr] at g0 g1 g2 g3
  obtain ⟨b0, e0, _, w0⟩ := DataW.trod_int Try.underlying3 g0
  obtain ⟨b1, e1, _, w1⟩ := DataW.trod_int Try.underlying3 g1
  obtain ⟨b3, e3, _, w3⟩ := DataW.trod_int Try.underlying3 g3
  injection e0 with e0
  injection e1 with e1
  injection e3 with e3
  subst e0; subst e1; subst e3
  obtain ⟨ra, rn, rc, rfl⟩ : ∃ ra rn rc, c2 = .slice ra rn rc := by
    rcases open_slice Try.underlying22 g2 with ⟨hcs, _⟩ | ⟨a, l, c, m, n, D, Pl, hcs, _⟩
    · injection hcs with hcs; exact ⟨_, _, _, hcs⟩
    · injection hcs with hcs; exact ⟨_, _, _, hcs⟩
  obtain ⟨q1, F, q2⟩ := open_slots g2
  exact ⟨⟨b0, b1, ra, rn, rc, b3, F⟩, rfl, wf_i64 w0, wf_i64 w1, wf_i64 w3, q1.1.1, q1.1.2, q1.2, q2.here⟩
theorem op3_value {fuel : Nat} {v : Value} {d : DataW H} {p : List MemPlace} (h : DataW.trod enc Try.prog W 0 (fun _ => true) true fuel 35 v.cells.toList = some (d, p)) :
    ∃ o : Op3, v = o.val ∧ OpIs W o := by
  obtain ⟨x, e, hx⟩ := open_op3 h
  refine ⟨x, ?_, hx⟩
  cases v <;> simp [Value.cells] at e
  rename_i cs
  unfold Op3.val
  have e' : cs = #[.int .i64 x.f, .int .i64 x.d, .slice x.bo x.m x.mc, .int .i64 x.h] := Array.ext' e
  rw [e']
set_option maxRecDepth 100000 in
theorem open_ops3 {fuel : Nat} {ao : Option Addr} {len cap : Nat} {d : DataW H} {p : List MemPlace} (h : DataW.trod enc Try.prog W 0 (fun _ => true) true fuel 27 [.slice ao len cap] = some (d, p)) :
    len ≤ maxLen ∧ ∃ O, OpsAt3 W ao len O := by
  have hc9 : Try.prog.cellsOf 35 = 4 := by kernel_rfl
  rcases open_slice Try.underlying27 h with ⟨hcs, _⟩ | ⟨a, l, c, m, n, D, Pl, hcs, _, hl, hml, hm, hx, hel⟩
  · injection hcs with hcs
    injection hcs with e1 e2 e3
    subst e2; subst e3
    exact ⟨by unfold maxLen; omega, fun _ => ⟨0, 0, none, 0, 0, 0, fun _ => ⟨0, 0, 0, false⟩⟩, fun i hi => by omega⟩
  · injection hcs with hcs
    injection hcs with e1 e2 e3
    subst e1; subst e2; subst e3
    have hlm : len ≤ m := by rw [hm]; simp; exact hl
    refine ⟨by omega, ?_⟩
    have key : ∀ i, ∃ x : Op3, i < len → OpIs W x ∧ ∀ j, j < 4 → W.cell? ((a.add (i * 4)).add j) = [Value.int .i64 x.f, .int .i64 x.d, .slice x.bo x.m x.mc, .int .i64 x.h][j]? := by
      intro i
      by_cases hi : i < len
      · obtain ⟨cs', h1, h2⟩ := hel i (by omega)
        rw [hc9] at h1
        obtain ⟨x, rfl, hr⟩ := open_op3 h2
        obtain ⟨_, _, hg⟩ := World.cells?_some h1
        refine ⟨x, fun _ => ⟨hr, fun j hj => ?_⟩⟩
        have := hg j (by simpa using hj)
        rw [this]
      · exact ⟨⟨0, 0, none, 0, 0, 0, fun _ => ⟨0, 0, 0, false⟩⟩, fun h => absurd h hi⟩
    obtain ⟨F, hF⟩ := Classical.axiomOfChoice key
    refine ⟨F, fun i hi => ?_⟩
    obtain ⟨k0, k1⟩ := hF i hi
    have hsp := spot_none (v := .int .i64 (F 0).f) ((hF 0 (by omega)).2 0 (by omega))
    obtain ⟨b, off, sp⟩ := a
    have hsn : sp = none := by simpa [Addr.add] using hsp
    subst hsn
    simp only [Addr.add_lit] at k1
    exact ⟨k0, b, off, rfl, k1 0 (by omega), k1 1 (by omega), k1 2 (by omega), k1 3 (by omega)⟩
end
end Go.Proofs.Ytdpjaafdpgkclaa
