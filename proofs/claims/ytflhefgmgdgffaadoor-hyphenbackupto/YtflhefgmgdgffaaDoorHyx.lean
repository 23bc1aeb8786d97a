/-
  What the statements of layer 17 are handed: patterns and words, and how many letters stay together.
-/
import Derived.Test.YtflhefgmgdgffaaDoorHyv
import Derived.Test.YtflhefgmgdgffaaDoorRows
import Derived.Deep.Slices
import Derived.SizedLaws
import Derived.OpenShut
namespace Go.Proofs.YtflhefgmgdgffaaDoor
open Go.RowKit Go.Maps Go.Deep
set_option linter.unusedSimpArgs false
set_option linter.unusedVariables false

theorem spot_none {w : World} {a : Addr} {v : Value} (h : w.cell? a = some v) : a.spot = none := by
  cases hs : a.spot with
  | none => rfl
  | some s =>
    exfalso
    unfold World.cell? at h
    split at h
    · simp [hs] at h
    · cases h
theorem wf_i64 {n : Int} (h : (Lit.int .i64 n).wf = true) : I64 n := by
  have h' : IntKind.i64.min ≤ n ∧ n ≤ 9223372036854775807 := by simpa [Lit.wf] using h
  exact ⟨h'.1, h'.2⟩
theorem bulk_part {H : Type} {d : DataW H} {l : List (DataW H)} (h : d ∈ l) : Rows.uptoBulk d ≤ Rows.uptoBulkAll l := by
  induction l with
  | nil => cases h
  | cons x r ih =>
    simp only [Rows.uptoBulkAll]
    rcases List.mem_cons.1 h with rfl | e
    · omega
    · have := ih e; omega
section
variable {H : Type} {enc : TypeId × Value → H} {W : World}
theorem bulk_text {d : DataW H} {b : ByteArray} (e : d = .lit (.string b.data.toList)) : Rows.uptoBulk d = b.size + 1 := by
  subst e
  simp only [Rows.uptoBulk]
  rw [Array.length_toList]; rfl
set_option maxRecDepth 100000 in
/-- Texts that are handed in. -/
theorem open_strs {fuel : Nat} {ao : Option Addr} {len cap : Nat} {d : DataW H} {p : List MemPlace} (h : DataW.trod enc Tryd.prog W 0 (fun _ => true) true fuel 22 [.slice ao len cap] = some (d, p)) (hk : Rows.uptoBulk d ≤ 1048576) :
    len ≤ maxLen ∧ ∃ S, StrsAt W ao len S := by
  have hc1 : Tryd.prog.cellsOf 9 = 1 := by kernel_rfl
  rcases open_slice Tryd.underlying22 h with ⟨hcs, _⟩ | ⟨a, l, c, m, n, D, Pl, hcs, _, hl, hml, hm, hx, hel⟩
  · injection hcs with hcs
    injection hcs with e1 e2 e3
    subst e2; subst e3
    exact ⟨by unfold maxLen; omega, fun _ => ByteArray.empty, .inl rfl, fun i hi => by omega⟩
  · injection hcs with hcs
    injection hcs with e1 e2 e3
    subst e1; subst e2; subst e3
    have hlm : len ≤ m := by rw [hm]; simp; exact hl
    refine ⟨by omega, ?_⟩
    injection hx with hx1 hx2
    have key : ∀ i, ∃ x : ByteArray, i < len → W.cell? (a.add i) = some (.string x) ∧ x.size ≤ 1048576 := by
      intro i
      by_cases hi : i < len
      · obtain ⟨cs', h1, h2⟩ := hel i (by omega)
        rw [hc1] at h1
        obtain ⟨b, e0, x0, w0⟩ := DataW.trod_string Tryd.underlying9 h2
        subst e0
        obtain ⟨_, _, hg⟩ := World.cells?_some h1
        have := hg 0 (by omega)
        refine ⟨b, fun _ => ⟨by simpa [Addr.add] using this, ?_⟩⟩
        have hb := bulk_text (H := H) (d := D i) (b := b) (by injection x0)
        have hp := bulk_part (H := H) (d := D i) (l := (List.range len).map D) (List.mem_map.2 ⟨i, by simpa using hi, rfl⟩)
        rw [hx1] at hk
        simp only [Rows.uptoBulk] at hk
        omega
      · exact ⟨ByteArray.empty, fun h => absurd h hi⟩
    obtain ⟨F, hF⟩ := Classical.axiomOfChoice key
    refine ⟨F, ?_, fun i hi => (hF i hi).2⟩
    by_cases h0 : len = 0
    · exact .inl h0
    · right
      have hsp := spot_none (hF 0 (by omega)).1
      obtain ⟨b, off, sp⟩ := a
      have hsn : sp = none := by simpa [Addr.add] using hsp
      subst hsn
      exact ⟨b, off, rfl, World.block_lt_of_cell? _ _ (hF 0 (by omega)).1, fun i hi => by have := (hF i hi).1; rwa [Addr.add_lit] at this⟩
def listsV (ao : Option Addr) (n cap : Nat) (ao' : Option Addr) (n' cap' : Nat) (l r : Int) : Value := .agg #[.slice ao n cap, .slice ao' n' cap', .int .i64 l, .int .i64 r]
set_option maxRecDepth 100000 in
theorem lists_value {fuel : Nat} {v : Value} {d : DataW H} {p : List MemPlace} (h : DataW.trod enc Tryd.prog W 0 (fun _ => true) true fuel 24 v.cells.toList = some (d, p)) (hk : Rows.uptoBulk d ≤ 1048576) :
    ∃ (ao : Option Addr) (n cap : Nat) (ao' : Option Addr) (n' cap' : Nat) (l r : Int) (S T : Nat → ByteArray), v = listsV ao n cap ao' n' cap' l r ∧ (n ≤ maxLen ∧ n' ≤ maxLen) ∧ StrsAt W ao n S ∧ StrsAt W ao' n' T ∧ I64 l ∧ I64 r := by
  obtain ⟨xs, nn, _, hx, hl, hlen, hf⟩ := DataW.trod_struct Tryd.underlying24 h
  have hcn : Tryd.prog.cellsOf 24 = 4 := by kernel_rfl
  rw [hcn] at hl
  have k3 : Tryd.prog.cellsOf 3 = 1 := by kernel_rfl
  have kr : Tryd.prog.cellsOf 22 = 1 := by kernel_rfl
  generalize hcs : v.cells.toList = cs at *
  obtain ⟨c0, c1, c2, c3, rfl⟩ : ∃ c0 c1 c2 c3, cs = [c0, c1, c2, c3] := by
    match cs, hl with
    | [c0, c1, c2, c3], _ => exact ⟨c0, c1, c2, c3, rfl⟩
  obtain ⟨y0, y1, y2, y3, rfl⟩ : ∃ y0 y1 y2 y3, xs = [y0, y1, y2, y3] := by
    match xs, hlen with
    | [y0, y1, y2, y3], _ => exact ⟨y0, y1, y2, y3, rfl⟩
  have g0 := hf 0 _ rfl
  have g1 := hf 1 _ rfl
  have g2 := hf 2 _ rfl
  have g3 := hf 3 _ rfl
  simp [k3, kr] at g0 g1 g2 g3
  obtain ⟨b2, e2, _, w2⟩ := DataW.trod_int Tryd.underlying3 g2
  obtain ⟨b3, e3, _, w3⟩ := DataW.trod_int Tryd.underlying3 g3
  injection e2 with e2
  injection e3 with e3
  subst e2; subst e3
  obtain ⟨ra, rn, rc, rfl⟩ : ∃ ra rn rc, c0 = .slice ra rn rc := by
    rcases open_slice Tryd.underlying22 g0 with ⟨hcs, _⟩ | ⟨a, l, c, m, n, D, Pl, hcs, _⟩
    · injection hcs with hcs; exact ⟨_, _, _, hcs⟩
    · injection hcs with hcs; exact ⟨_, _, _, hcs⟩
  obtain ⟨qa, qn, qc, rfl⟩ : ∃ ra rn rc, c1 = .slice ra rn rc := by
    rcases open_slice Tryd.underlying22 g1 with ⟨hcs, _⟩ | ⟨a, l, c, m, n, D, Pl, hcs, _⟩
    · injection hcs with hcs; exact ⟨_, _, _, hcs⟩
    · injection hcs with hcs; exact ⟨_, _, _, hcs⟩
  injection hx with hx1 hx2
  subst hx1
  have hb : Rows.uptoBulk y0.1 ≤ 1048576 ∧ Rows.uptoBulk y1.1 ≤ 1048576 := by
    simp only [Rows.uptoBulk, Rows.uptoBulkAll, List.map_cons, List.map_nil] at hk
    omega
  obtain ⟨q1, S, q2⟩ := open_strs g0 hb.1
  obtain ⟨q3, T, q4⟩ := open_strs g1 hb.2
  refine ⟨ra, rn, rc, qa, qn, qc, b2, b3, S, T, ?_, ⟨q1, q3⟩, q2, q4, wf_i64 w2, wf_i64 w3⟩
  cases v <;> simp [Value.cells] at hcs
  rename_i cs
  have e' : cs = #[.slice ra rn rc, .slice qa qn qc, .int .i64 b2, .int .i64 b3] := Array.ext' hcs
  rw [e']
  rfl
end
end Go.Proofs.YtflhefgmgdgffaaDoor
