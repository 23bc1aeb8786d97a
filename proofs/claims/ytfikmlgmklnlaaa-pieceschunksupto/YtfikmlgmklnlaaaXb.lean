/-
  What Read answers; an edit and a pair of numbers as they are handed in by themselves.
-/
import Derived.OpenShut
import Derived.Test.YtfikmlgmklnlaaaWz
namespace Go.Proofs.Ytfikmlgmklnlaaa
open Go.RowKit
set_option linter.unusedSimpArgs false
set_option linter.unusedVariables false

/-- A part. -/
def rdp (l : List Nat) (a b : Int) : List Nat := if spe l a b = 0 then (l.drop a.toNat).take (b - a).toNat else []

set_option maxRecDepth 100000 in
set_option maxHeartbeats 1000000 in
theorem read_part {S : Nat → Nat → Prop} {w : World} {tb : Nat} {x : Option Addr} {A : Option (Nat × Nat × Nat)} {T : Tr} (h : TextAt S w tb x A T) (a b : Int) (ha : -9223372036854775808 ≤ a ∧ a ≤ 9223372036854775807) (hbb : -9223372036854775808 ≤ b ∧ b ≤ 9223372036854775807) :
    Calls Try.prog 18 #[.pointer (some ⟨tb, 0, none⟩), .int .i64 a, .int .i64 b] w fun e w' => e = .returned (.tuple #[.string (tx (rdp T.flat a b)), .int .i64 (spe T.flat a b)]) ∧ Below w.heap.size w w' := by
  have hcp := checkPart_any h a b ha hbb
  unfold rdp
  by_cases h1 : spe T.flat a b = 0
  · have hr := spe_zero _ _ _ h1
    rw [if_pos h1, h1]
    rw [h1] at hcp
    have hlen := h.len
    have hs1 := sp_flat T a
    have hs2 := sp_flat (sp T a).2 (b - a)
    have hl1 := sp_len T a
    have hl2 := sp_len (sp T a).2 (b - a)
    have hsp := fun w' (hb : Below w.heap.size w w') => split_any T S x a w' (h.tree.below hb) (by omega) (by omega) (h.below hb).up
    have hsp2 := fun w' (hb : Below w.heap.size w w') z (hz : IsT S w' z (sp T a).2) => split_any (sp T a).2 S z (b - a) w' hz (by omega) (by omega) (h.below hb).up
    have hwh := fun w' u (hu : IsT S w' u (sp (sp T a).2 (b - a)).1) => whole_any u (sp (sp T a).2 (b - a)).1 S w' hu (by omega)
    rw [hs2.1, hs1.2] at hwh
    have hrt : ∀ w', Below w.heap.size w w' → w'.cell? ⟨tb, 0, none⟩ = some (.pointer x) := fun w' hb => hold hb h.root
    clear h hs1 hs2 hl1 hl2 h1
    have hbd : -9223372036854775808 ≤ b - a ∧ b - a ≤ 9223372036854775807 := by omega
    generalize tx ((T.flat.drop a.toNat).take (b - a).toNat) = Rs at *
    go_enter Try.func18, Try.ntmps18
    go_wp2_with fail
    refine hcp.mono ?_
    rintro e w1 ⟨rfl, hb1⟩
    have HB1 := boxed hb1
    have c1 := hrt _ hb1
    clear hb1 hcp
    go_wp2_with fail
    refine (hsp _ HB1.out).mono ?_
    rintro e w2 ⟨y, z, rfl, hy, hz, hb2⟩
    have HZ := boxed hz
    have HB2 := boxed (below_step HB1.out (Nat.le_refl _) hb2)
    clear hy hz hb2 hsp c1
    go_wp2_with fail
    refine (hsp2 _ HB2.out _ HZ.out).mono ?_
    rintro e w3 ⟨u, v, rfl, hu, hv, hb3⟩
    have HU := boxed hu
    have HB3 := boxed (below_step HB2.out (Nat.le_refl _) hb3)
    clear hu hv hb3 hsp2
    go_wp2_with fail
    refine (hwh _ _ HU.out).mono ?_
    rintro e w4 ⟨rfl, hb4⟩
    have HB4 := boxed (below_step HB3.out (Nat.le_refl _) hb4)
    clear hb4 hwh
    go_wp2
    refine bodyPost_ret (v := .tuple #[.string Rs, .int .i64 0]) (by simp [results, Try.results18, go_sem]) rfl ⟨rfl, HB4.out⟩
  · rw [if_neg h1]
    have t1 : (spe T.flat a b == 0) = false := by simpa using h1
    have t1' : (spe T.flat a b != 0) = true := by simpa using h1
    clear h h1
    generalize spe T.flat a b = E at *
    go_enter Try.func18, Try.ntmps18
    go_wp2_with (go_at_call 35; refine hcp.mono ?_; rintro e w1 ⟨rfl, hb1⟩; have HB := boxed hb1; clear hb1)
    refine bodyPost_ret (v := .tuple #[.string ⟨#[]⟩, .int .i64 E]) (by simp [results, Try.results18, go_sem]) rfl ⟨by rw [show tx [] = (⟨#[]⟩ : ByteArray) from rfl], HB.out⟩

theorem part_ext (r : ByteArray) (i j : Nat) : tx (((bl r).drop i).take (j - i)) = r.extract i j := by
  rw [← tx_bl (r.extract i j), bl_ext, List.drop_take]
theorem slice_lh (r : ByteArray) (i j : Nat) (h1 : i ≤ j) (h2 : j ≤ r.size) (w : World) : (Instr.slice 9 (.string r) (some (.int .i64 (i : Int))) (some (.int .i64 (j : Int))) none).run Try.prog w = .ok (.string (r.extract i j)) w := by
  have h3 : (i : Int) ≤ (j : Int) := by omega
  have h4 : (j : Int) ≤ (r.size : Int) := by omega
  go_simp

section
variable {H : Type} {enc : TypeId × Value → H} {W : World}
theorem op_value {fuel : Nat} {v : Value} {d : DataW H} {p : List MemPlace} (h : DataW.trod enc Try.prog W 0 (fun _ => true) true fuel 55 v.cells.toList = some (d, p)) (hb : Rows.uptoBulk d ≤ 1048576) :
    ∃ o : Opr, v = .agg #[.bool o.out, .int .i64 o.a, .int .i64 o.b, .string o.m] ∧ OprOk o := by
  obtain ⟨o, e, ho⟩ := open_op h hb
  refine ⟨o, ?_, ho⟩
  cases v <;> simp [Value.cells] at e
  rename_i cs
  congr 1
  apply Array.ext'
  exact e
theorem pair_value {t : TypeId} (ht : Try.prog.underlying t = some (.array 2 3)) (hc : Try.prog.cellsOf t = 2) {fuel : Nat} {v : Value} {d : DataW H} {p : List MemPlace} (h : DataW.trod enc Try.prog W 0 (fun _ => true) true fuel t v.cells.toList = some (d, p)) :
    ∃ x y : Int, v = .agg #[.int .i64 x, .int .i64 y] ∧ (-9223372036854775808 ≤ x ∧ x ≤ 9223372036854775807) ∧ -9223372036854775808 ≤ y ∧ y ≤ 9223372036854775807 := by
  have k3 : Try.prog.cellsOf 3 = 1 := by kernel_rfl
  obtain ⟨xs, m, _, _, hl, hlen, hf⟩ := DataW.trod_array ht h
  rw [hc] at hl
  obtain ⟨c0, c1, e⟩ : ∃ c0 c1, v.cells.toList = [c0, c1] := by
    match hq : v.cells.toList, hl with
    | [c0, c1], _ => exact ⟨c0, c1, rfl⟩
  obtain ⟨y0, y1, rfl⟩ : ∃ y0 y1, xs = [y0, y1] := by
    match xs, hlen with
    | [y0, y1], _ => exact ⟨y0, y1, rfl⟩
  have g0 := hf 0 (by omega)
  have g1 := hf 1 (by omega)
  rw [e] at g0 g1
  simp [k3] at g0 g1
  obtain ⟨b0, e0, _, w0⟩ := DataW.trod_int Try.underlying3 g0
  obtain ⟨b1, e1, _, w1⟩ := DataW.trod_int Try.underlying3 g1
  injection e0 with e0
  injection e1 with e1
  subst e0; subst e1
  refine ⟨b0, b1, ?_, wf_i64 w0, wf_i64 w1⟩
  cases v <;> simp [Value.cells] at e
  rename_i cs
  have e' : cs = #[.int .i64 b0, .int .i64 b1] := Array.ext' e
  rw [e']
end
end Go.Proofs.Ytfikmlgmklnlaaa
