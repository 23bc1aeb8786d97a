/-
  For every text of at most 1048574 bytes and every number the law RunesAt answers true and leaves its arguments as they were: At tells where each rune of a right text begins, its length behind the last, and none beyond. Condition: the bound of the statement RunesAtUptoSaid.
  (The frame of this text is after the one that the program proof-skeleton.mjs wrote; the walk is ours.)
-/
import Derived.Test.YtifehmifgapodaaRows
import Derived.WalkKit
import Derived.ProofKit
import Derived.OpenShut
import Derived.JoinedCond
import Derived.Test.YtifehmifgapodaaUh
import Derived.Test.YtifehmifgapodaaUm
import Derived.ShutString
namespace Go.Proofs.Ytifehmifgapodaa.runesAt
open Go.ChangeShapes Go.WideShapes Go.ChangeAt Go.RowKit
open Go.ChangeMaps (open_string shut_string)
set_option linter.unusedVariables false      -- a walk need not use every 'w<i>' (that an integer argument fits its kind)

theorem own : ownKnob Try.prog.godebug = none := by kernel_rfl

/-- What the bound gives: the length of each text. -/
theorem short {H : Type} {a0 : ByteArray} {a1 : Int} (hk : Rows.uptoSmall H [DataW.lit (H := H) (.string a0.data.toList), DataW.lit (H := H) (.int .i64 a1)] = true) : a0.size ≤ 1048576 := by
  have h : Rows.uptoBulkAll [DataW.lit (H := H) (.string a0.data.toList), DataW.lit (H := H) (.int .i64 a1)] ≤ 1048576 := of_decide_eq_true hk
  simp only [Rows.uptoBulkAll, Rows.uptoBulk] at h
  have ea0 : a0.data.toList.length = a0.size := by rw [Array.length_toList]; rfl
  omega

theorem walk (a0 : ByteArray) (a1 : Int) (w0 : a0.size ≤ maxLen) (w1 : (Lit.int .i64 a1).wf = true) (hk : a0.size ≤ 1048576) (w : World) :
    Calls Try.prog 8 #[.string a0, .int .i64 a1] w fun e w' => e = .returned (.bool true) ∧ Below w.heap.size w w' := by
  obtain ⟨N, hN⟩ := cnt_ex a0
  have hru := runes_any a0 w hk N hN
  have hB := badAt_cases a0 N
  have hNl : N ≤ a0.size := by have := cnt_le a0 N hN; have := it_le a0 N; omega
  have HT : Box (badAt a0 N = -1 → Right a0 N) := boxed (fun c => right_of a0 N hN (by omega))
  have hl2 := its_len a0 N
  generalize badAt a0 N = B at *
  clear hN
  rcases hB with hB | hB
  rotate_left
  · go_enter Try.func8, Try.ntmps8
    go_wp2_with fail
    refine (awake_any _).mono ?_
    rintro e w' ⟨rfl, hw'⟩
    subst w'
    go_wp2_with fail
    refine hru.mono ?_
    rintro e w1 ⟨p1, c1, p2, c2, rfl, -, -, hb⟩
    have HB := boxed hb
    clear hb hru
    go_wp2
    go_ret
    exact ⟨rfl, HB.out⟩
  replace HT := boxed (HT.out hB)
  subst hB
  have hat := fun w => at_any a0 a1 w w0 N HT.out
  have htop : Box (it a0 N = a0.size) := boxed HT.out.2
  by_cases h1 : 0 ≤ a1 ∧ a1 < (N : Int)
  · obtain ⟨k, rfl⟩ : ∃ k : Nat, a1 = (k : Int) := ⟨a1.toNat, by omega⟩
    have hv : atv a0 N (k : Int) = ((it a0 k : Int), true) := by unfold atv; rw [if_pos (by omega)]; simp
    rw [hv] at hat
    clear hv
    have hkN : k < N := by omega
    have hle := it_le a0 k
    have hget := its_get a0 N k hkN
    have d1 : decide ((0 : Int) ≤ (k : Int)) = true := decide_eq_true (by omega)
    have d2 : decide ((k : Int) < (N : Int)) = true := decide_eq_true (by omega)
    have d2' : decide (k < N) = true := decide_eq_true (by omega)
    go_enter Try.func8, Try.ntmps8
    go_wp2_with fail
    refine (awake_any _).mono ?_
    rintro e w' ⟨rfl, hw'⟩
    subst w'
    go_wp2_with fail
    refine hru.mono ?_
    rintro e w1 ⟨p1, c1, p2, c2, rfl, -, hdg, hb⟩
    have HB := boxed hb
    obtain ⟨⟨q1, q2⟩, hx | ⟨g, off, rfl, hg, hc⟩⟩ := hdg
    · exfalso; rw [hx] at hl2; simp at hl2; omega
    have hcell := hc k (by omega)
    rw [hget] at hcell
    rw [hl2] at q1
    unfold maxLen at q2
    clear hb hru hc hget
    go_wp2_with fail
    refine (hat _).mono ?_
    rintro e w2 ⟨rfl, p, hw2⟩
    have hcell2 : w2.cell? ⟨g, off + k, none⟩ = some (.int .i64 (it a0 k : Int)) := by
      rw [hw2, (bel_iter w1 a0 p).cell (p := ⟨g, off + k, none⟩) hg]; exact hcell
    have HB2 : Box (Below w.heap.size w w2) := boxed (by rw [hw2]; exact HB.out.trans ((bel_iter w1 a0 p).mono HB.out.size))
    clear hw2 hcell hat
    generalize it a0 k = A at *
    go_wp2
    go_ret
    exact ⟨by try simp, HB2.out⟩
  by_cases h2 : a1 = (N : Int)
  · have hv : atv a0 N a1 = ((a0.size : Int), true) := by unfold atv; rw [if_pos (by omega), h2, ← htop.out]; simp
    rw [hv] at hat
    clear hv
    subst h2
    have d1 : decide ((0 : Int) ≤ (N : Int)) = true := decide_eq_true (by omega)
    have d2 : decide ((N : Int) < (N : Int)) = false := decide_eq_false (by omega)
    go_enter Try.func8, Try.ntmps8
    go_wp2_with fail
    refine (awake_any _).mono ?_
    rintro e w' ⟨rfl, hw'⟩
    subst w'
    go_wp2_with fail
    refine hru.mono ?_
    rintro e w1 ⟨p1, c1, p2, c2, rfl, -, hdg, hb⟩
    have HB := boxed hb
    clear hb hru hdg
    go_wp2_with fail
    refine (hat _).mono ?_
    rintro e w2 ⟨rfl, p, hw2⟩
    have HB2 : Box (Below w.heap.size w w2) := boxed (by rw [hw2]; exact HB.out.trans ((bel_iter w1 a0 p).mono HB.out.size))
    clear hw2 hat
    go_wp2
    go_ret
    exact ⟨by try simp, HB2.out⟩
  · have hv : atv a0 N a1 = (0, false) := by unfold atv; rw [if_neg (by omega)]
    rw [hv] at hat
    clear hv
    have d3 : (a1 == (N : Int)) = false := by rw [beq_eq_false_iff_ne]; exact h2
    by_cases h0 : 0 ≤ a1
    · have d1 : decide ((0 : Int) ≤ a1) = true := decide_eq_true (by omega)
      have d2 : decide (a1 < (N : Int)) = false := decide_eq_false (by omega)
      go_enter Try.func8, Try.ntmps8
      go_wp2_with fail
      refine (awake_any _).mono ?_
      rintro e w' ⟨rfl, hw'⟩
      subst w'
      go_wp2_with fail
      refine hru.mono ?_
      rintro e w1 ⟨p1, c1, p2, c2, rfl, -, hdg, hb⟩
      have HB := boxed hb
      clear hb hru hdg
      go_wp2_with fail
      refine (hat _).mono ?_
      rintro e w2 ⟨rfl, p, hw2⟩
      have HB2 : Box (Below w.heap.size w w2) := boxed (by rw [hw2]; exact HB.out.trans ((bel_iter w1 a0 p).mono HB.out.size))
      clear hw2 hat
      go_wp2
      go_ret
      exact ⟨by try simp, HB2.out⟩
    · have d1 : decide ((0 : Int) ≤ a1) = false := decide_eq_false (by omega)
      go_enter Try.func8, Try.ntmps8
      go_wp2_with fail
      refine (awake_any _).mono ?_
      rintro e w' ⟨rfl, hw'⟩
      subst w'
      go_wp2_with fail
      refine hru.mono ?_
      rintro e w1 ⟨p1, c1, p2, c2, rfl, -, hdg, hb⟩
      have HB := boxed hb
      clear hb hru hdg
      go_wp2_with fail
      refine (hat _).mono ?_
      rintro e w2 ⟨rfl, p, hw2⟩
      have HB2 : Box (Below w.heap.size w w2) := boxed (by rw [hw2]; exact HB.out.trans ((bel_iter w1 a0 p).mono HB.out.size))
      clear hw2 hat
      go_wp2
      go_ret
      exact ⟨by try simp, HB2.out⟩

theorem contract (H : Type) (enc : TypeId × Value → H) (W : World) (base : Nat) (args : Array Value) (ds gs : List (DataW H)) (before : List MemPlace)
    (hval0 : ∀ (j : Nat) t v, Try.f8.params[j]? = some t → args[j]? = some v → Value.okWide Try.prog W .any base t v)
    (hW : DataW.Whole enc Try.prog Try.f8.params.toList Rows.runesAtSpec.vars false W args.toList ds gs before) (hk : Rows.uptoSmall H (ds ++ gs) = true) :
    Calls Try.prog 8 args W fun e W' => ∃ v, e = .returned v ∧ Rows.runesAtSpec.post enc Try.prog Try.f8 false true false false W args v W' := by
  have hval : ∀ (j : Nat) t v, Try.f8.params[j]? = some t → args[j]? = some v → Value.okWide Try.prog W .any base t v := hval0
  have hW' := hW
  obtain ⟨p, q, hA0, hV, rfl, hfz, hnd⟩ := hW
  have hA : DataW.TrodAll enc Try.prog W 0 (fun _ => true) true Try.f8.params.toList args.toList ds p := hA0
  rw [Try.params8] at hA hval
  obtain ⟨v0, vs0, d0, ds0, p0, q0, hargs, rfl, rfl, h0, r0⟩ := trodAll_cons hA
  obtain ⟨v1, vs1, d1, ds1, p1, q1, rfl, rfl, rfl, h1, r1⟩ := trodAll_cons r0
  obtain ⟨rfl, rfl, rfl⟩ := trodAll_nil r1
  obtain rfl : args = #[v0, v1] := by cases args; simp_all
  obtain ⟨rfl, rfl⟩ := trodVars_none hV
  obtain ⟨a0, rfl, rfl, rfl, w0⟩ := open_string Try.underlying9 (hval 0 9 v0 rfl rfl) h0
  obtain ⟨a1, rfl, rfl, rfl, w1⟩ := open_int Try.underlying3 (hval 1 3 v1 rfl rfl) h1
  clear hA0 hval0
  simp only [List.append_nil] at hW' hk
  refine (walk a0 a1 w0 w1 (short hk) W).mono fun e W' ⟨he, hg⟩ => ?_
  subst he
  exact ⟨_, rfl, _, _, _, [], [], [], hW', trodAll_mk1 (shut_bool Try.underlying4 _), (trodAll_cons_mk (shut_string Try.underlying9 w0) (trodAll_cons_mk (shut_int Try.underlying3 w1) trodAll_mk0)), rfl, hg.frame _, fun h => by cases h⟩

set_option maxRecDepth 100000 in
theorem lifted (os : Os) (started : os.Started) (H : Type) (enc : TypeId × Value → H) (F : Stop.Interp) :
    ReturnsInHanded {} Try.checked os 8 .any ((Rows.OpenSpec.upto Rows.runesAtSpec).pre6 enc Try.prog Try.f8 Rows.runesAtUptoRow.domain false) (((Rows.OpenSpec.upto Rows.runesAtSpec).at F).post enc Try.prog Try.f8 false true false false) := by
  refine returnsInHanded_of_cond (C := Try.checked) (s := Rows.OpenSpec.upto Rows.runesAtSpec) (k := Rows.uptoSmall) rfl own started (by kernel_rfl) Try.func8
    (OpenSpec.witness (enc := enc) (C := Try.checked) (s := Rows.OpenSpec.upto Rows.runesAtSpec) (k := Rows.uptoSmall) rfl false ⟨#[], #[.string ByteArray.empty, .int .i64 0], []⟩ 8 (by kernel_rfl) (by kernel_rfl) (by kernel_rfl)
      (x := ([.lit (.string []), .lit (.int .i64 0)], [], [])) (by kernel_rfl) rfl (by kernel_rfl)) ?_
  intro W base args ds gs before hval hW _ hk _
  exact contract H enc W base args ds gs before hval hW hk

theorem proved : Rows.RunesAtUptoSaid :=
  OpenClaim.holds_of_cond 8 Try.f8 rfl rfl rfl rfl rfl rfl rfl ⟨rfl, rfl, rfl, rfl, rfl⟩ rfl rfl rfl rfl rfl (by kernel_rfl) Try.func8 (by kernel_rfl)
    (of_decide_eq_true (by kernel_rfl)) (by unfold Func.isWrapper; first | (rw [if_pos (by decide +kernel)]; kernel_rfl) | (rw [if_neg (by decide +kernel)]; exact ⟨rfl, rfl⟩))
    (fun os started H enc _ F => lifted os started H enc F)
#print axioms proved
end Go.Proofs.Ytifehmifgapodaa.runesAt
