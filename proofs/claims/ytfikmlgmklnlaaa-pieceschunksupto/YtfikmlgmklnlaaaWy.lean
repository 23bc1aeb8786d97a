/-
  The law's edits as they are handed in: what the reading of such a slice gives.
-/
import Derived.Deep.Slices
import Derived.Test.YtfikmlgmklnlaaaWv
namespace Go.Proofs.Ytfikmlgmklnlaaa
open Go.RowKit Go.Deep
set_option linter.unusedSimpArgs false
set_option linter.unusedVariables false

theorem bulk_part {H : Type} {d : DataW H} {l : List (DataW H)} (h : d ∈ l) : Rows.uptoBulk d ≤ Rows.uptoBulkAll l := by
  induction l with
  | nil => cases h
  | cons x r ih =>
    simp only [Rows.uptoBulkAll]
    cases List.mem_cons.1 h with
    | inl e => subst e; omega
    | inr e => have := ih e; omega
theorem bulk_one {H : Type} (d : DataW H) : 1 ≤ Rows.uptoBulk d := by
  cases d with
  | lit l => cases l <;> simp [Rows.uptoBulk]
  | nil => simp [Rows.uptoBulk]
  | ptr d => simp [Rows.uptoBulk]
  | slice elems spare => simp [Rows.uptoBulk]
  | agg parts => simp [Rows.uptoBulk]
  | iface t d => simp [Rows.uptoBulk]
  | map entries => simp [Rows.uptoBulk]
  | held h => simp [Rows.uptoBulk]
theorem bulk_len {H : Type} (l : List (DataW H)) : l.length ≤ Rows.uptoBulkAll l := by
  induction l with
  | nil => simp [Rows.uptoBulkAll]
  | cons x r ih => have := bulk_one x; simp only [Rows.uptoBulkAll, List.length_cons]; omega

theorem spot_none {w : World} {a : Addr} {v : Value} (h : w.cell? a = some v) : a.spot = none := by
  cases hs : a.spot with
  | none => rfl
  | some s =>
    exfalso
    unfold World.cell? at h
    split at h
    · simp [hs] at h
    · cases h

theorem four (l : List Value) (h : l.length = 4) : ∃ a b c d, l = [a, b, c, d] := by
  match l, h with
  | [a, b, c, d], _ => exact ⟨a, b, c, d, rfl⟩

theorem wf_i64 {n : Int} (h : (Lit.int .i64 n).wf = true) : -9223372036854775808 ≤ n ∧ n ≤ 9223372036854775807 := by
  have h' : IntKind.i64.min ≤ n ∧ n ≤ 9223372036854775807 := by simpa [Lit.wf] using h
  exact ⟨h'.1, h'.2⟩

section
variable {H : Type} {enc : TypeId × Value → H} {W : World}

/-- One edit. -/
theorem open_op {fuel : Nat} {cs : List Value} {d : DataW H} {p : List MemPlace} (h : DataW.trod enc Try.prog W 0 (fun _ => true) true fuel 55 cs = some (d, p)) (hb : Rows.uptoBulk d ≤ 1048576) :
    ∃ o : Opr, cs = [.bool o.out, .int .i64 o.a, .int .i64 o.b, .string o.m] ∧ OprOk o := by
  obtain ⟨xs, n, _, hx, hl, hlen, hf⟩ := DataW.trod_struct Try.underlying55 h
  have hc4 : Try.prog.cellsOf 55 = 4 := by kernel_rfl
  rw [hc4] at hl
  obtain ⟨c0, c1, c2, c3, rfl⟩ := four cs hl
  have k3 : Try.prog.cellsOf 3 = 1 := by kernel_rfl
  have k4 : Try.prog.cellsOf 4 = 1 := by kernel_rfl
  have k9 : Try.prog.cellsOf 9 = 1 := by kernel_rfl
  obtain ⟨y0, y1, y2, y3, rfl⟩ : ∃ y0 y1 y2 y3, xs = [y0, y1, y2, y3] := by
    match xs, hlen with
    | [y0, y1, y2, y3], _ => exact ⟨y0, y1, y2, y3, rfl⟩
  have g0 := hf 0 _ rfl
  have g1 := hf 1 _ rfl
  have g2 := hf 2 _ rfl
  have g3 := hf 3 _ rfl
  simp [k3, k4, k9] at g0 g1 g2 g3
  obtain ⟨b0, e0, _⟩ := DataW.trod_bool Try.underlying4 g0
  obtain ⟨b1, e1, _, w1⟩ := DataW.trod_int Try.underlying3 g1
  obtain ⟨b2, e2, _, w2⟩ := DataW.trod_int Try.underlying3 g2
  obtain ⟨b3, e3, x3, w3⟩ := DataW.trod_string Try.underlying9 g3
  injection e0 with e0
  injection e1 with e1
  injection e2 with e2
  injection e3 with e3
  subst e0; subst e1; subst e2; subst e3
  refine ⟨⟨b0, b1, b2, b3⟩, rfl, wf_i64 w1, wf_i64 w2, ?_⟩
  injection hx with hx1 hx2
  subst hx1
  have hq : Rows.uptoBulk (DataW.lit (H := H) (.string b3.data.toList)) ≤ 1048576 := by
    have := bulk_part (H := H) (d := y3.1) (l := [y0, y1, y2, y3].map (·.1)) (by simp)
    have e3' : y3.1 = DataW.lit (H := H) (.string b3.data.toList) := by rw [x3]
    rw [← e3']
    simp only [Rows.uptoBulk] at hb
    omega
  simp only [Rows.uptoBulk, Array.length_toList] at hq
  show b3.data.size ≤ _
  omega

/-- A slice of edits. -/
theorem open_ops {fuel : Nat} {ao : Option Addr} {len cap : Nat} {d : DataW H} {p : List MemPlace} (h : DataW.trod enc Try.prog W 0 (fun _ => true) true fuel 22 [.slice ao len cap] = some (d, p)) (hb : Rows.uptoBulk d ≤ 1048576) :
    len ≤ 1048576 ∧ ∃ O, OpsAt W ao len O := by
  have hc4 : Try.prog.cellsOf 55 = 4 := by kernel_rfl
  rcases open_slice Try.underlying22 h with ⟨hcs, _⟩ | ⟨a, l, c, m, n, D, Pl, hcs, _, hl, _, hm, hx, hel⟩
  · injection hcs with hcs
    injection hcs with e1 e2 e3
    subst e2
    exact ⟨by omega, fun _ => ⟨false, 0, 0, ⟨#[]⟩⟩, fun i hi => by omega⟩
  · injection hcs with hcs
    injection hcs with e1 e2 e3
    subst e1; subst e2; subst e3
    injection hx with hx1 hx2
    have hbe : Rows.uptoBulkAll ((List.range len).map D) ≤ 1048576 := by rw [hx1] at hb; simp only [Rows.uptoBulk] at hb; omega
    have hln : len ≤ 1048576 := by have := bulk_len ((List.range len).map D); simp at this; omega
    have hlm : len ≤ m := by rw [hm]; simp; exact hl
    have key : ∀ i, ∃ o : Opr, i < len → OprOk o ∧ W.cell? (a.add (i * 4)) = some (.bool o.out) ∧ W.cell? ((a.add (i * 4)).add 1) = some (.int .i64 o.a) ∧ W.cell? ((a.add (i * 4)).add 2) = some (.int .i64 o.b) ∧ W.cell? ((a.add (i * 4)).add 3) = some (.string o.m) := by
      intro i
      by_cases hi : i < len
      · obtain ⟨cs', h1, h2⟩ := hel i (by omega)
        rw [hc4] at h1
        obtain ⟨o, rfl, ho⟩ := open_op h2 (Nat.le_trans (bulk_part (List.mem_map.2 ⟨i, by simpa using hi, rfl⟩)) hbe)
        obtain ⟨_, _, hg⟩ := World.cells?_some h1
        refine ⟨o, fun _ => ⟨ho, ?_, hg 1 (by omega), hg 2 (by omega), hg 3 (by omega)⟩⟩
        have := hg 0 (by omega)
        simpa [Addr.add] using this
      · exact ⟨⟨false, 0, 0, ⟨#[]⟩⟩, fun h => absurd h hi⟩
    obtain ⟨O, hO⟩ : ∃ O : Nat → Opr, ∀ i, i < len → OprOk (O i) ∧ W.cell? (a.add (i * 4)) = some (.bool (O i).out) ∧ W.cell? ((a.add (i * 4)).add 1) = some (.int .i64 (O i).a) ∧ W.cell? ((a.add (i * 4)).add 2) = some (.int .i64 (O i).b) ∧ W.cell? ((a.add (i * 4)).add 3) = some (.string (O i).m) :=
      ⟨fun i => Classical.choose (key i), fun i => Classical.choose_spec (key i)⟩
    refine ⟨hln, O, fun i hi => ?_⟩
    obtain ⟨k0, k1, k2, k3, k4⟩ := hO i hi
    have hsp := spot_none (hO 0 (by omega)).2.1
    obtain ⟨b, off, sp⟩ := a
    have hsn : sp = none := by simpa [Addr.add] using hsp
    subst hsn
    simp only [Addr.add_lit] at k1 k2 k3 k4
    exact ⟨k0, b, off, rfl, k1, k2, k3, k4⟩
end
end Go.Proofs.Ytfikmlgmklnlaaa
