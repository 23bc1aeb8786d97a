/-
  For every text of up to 1048576 bytes the law ParasSplits answers true and leaves its argument as it was: any bytes are split at their line ends, and nothing is lost.
  (The frame of this text is after the one that the program proof-skeleton.mjs wrote; the walk is ours.)
-/
import Derived.Test.YtholifolkimkdaaRows
import Derived.WalkKit
import Derived.ProofKit
import Derived.OpenShut
import Derived.JoinedCond
import Derived.Test.YtholifolkimkdaaGu
import Derived.ShutString
namespace Go.Proofs.Ytholifolkimkdaa.parasSplits
open Go.ChangeShapes Go.WideShapes Go.ChangeAt Go.RowKit
open Go.ChangeMaps (open_string shut_string)
set_option linter.unusedVariables false      -- a walk need not use every 'w<i>' (that an integer argument fits its kind)

theorem own : ownKnob Try.prog.godebug = none := by kernel_rfl

/-- What the bound gives: the length of each text. -/
theorem short {H : Type} {a0 : ByteArray} (hk : Rows.uptoSmall H [DataW.lit (H := H) (.string a0.data.toList)] = true) : a0.size ≤ 1048576 := by
  have h : Rows.uptoBulkAll [DataW.lit (H := H) (.string a0.data.toList)] ≤ 1048576 := of_decide_eq_true hk
  simp only [Rows.uptoBulkAll, Rows.uptoBulk] at h
  have ea0 : a0.data.toList.length = a0.size := by rw [Array.length_toList]; rfl
  omega

set_option maxRecDepth 100000 in
set_option maxHeartbeats 4000000 in
theorem walk (a0 : ByteArray) (w0 : a0.size ≤ maxLen) (hk : a0.size ≤ 1048576) (w : World) :
    Calls Try.prog 4 #[.string a0] w fun e w' => e = .returned (.bool true) ∧ Below w.heap.size w w' := by
  have hspl := sp_len (ln a0)
  have hll := ln_len a0
  rw [hll] at hspl
  have hBg := fun k (hk' : k < (sp (ln a0)).length) => Bg_get (sp (ln a0)) k hk'
  have hBl := fun k => Bg_le (sp (ln a0)) k
  rw [sp_sum, hll] at hBl
  have hLg := fun k (hk' : k ≤ (sp (ln a0)).length) => sts_get (ln a0) k hk'
  have hLn := sts_len (ln a0)
  have HSP := boxed (fun W => split_any a0 W hk)
  have HST := boxed (fun W => starts_any a0 W hk)
  have HOP := boxed (fun W => ropen_any a0 W hk)
  rw [hLn] at HST
  generalize hLS : sp (ln a0) = LS at *
  generalize hSS : sts (ln a0) = SS at *
  generalize hNN : LS.length = NN at *
  generalize op (ln a0) = OP at *
  clear hLS hSS hll
  go_enter Try.func4, Try.ntmps4
  go_wp2_with fail
  refine (awake_any _).mono ?_
  rintro e w1 ⟨rfl, hb1⟩
  have HB1 := boxed hb1
  clear hb1
  go_wp2_with fail
  refine (HSP.out _).mono ?_
  rintro e w2 ⟨v2, rfl, ho2, hb2⟩
  have HB2 := boxed (below_step HB1.out (Nat.le_refl _) hb2)
  obtain ⟨c2, cp2, rfl⟩ := own_shape ho2
  have HO2 := boxed (own_nat (by rw [hNN]; exact ho2))
  clear HSP ho2 hb2
  go_wp2_with fail
  refine (HST.out _).mono ?_
  rintro e w3 ⟨v3, rfl, ho3, hb3⟩
  have HB3 := boxed (below_step HB2.out (Nat.le_refl _) hb3)
  obtain ⟨g3, cp3, rfl, -⟩ := own_form ho3 (by omega)
  have HO3 := boxed (own_nat (by rw [hLn]; exact ho3))
  have HO2' := boxed (HO2.out.below hb3)
  clear HST ho3 hb3 HO2
  go_wp2_with (first | (go_at_call 15; refine (HOP.out _).mono ?_; rintro e w7 ⟨rfl, hw'⟩; subst w7))
  go_loopw [6] (fun iv wr => ∃ k : Nat, k ≤ NN ∧ iv = .int .i64 (k : Nat) ∧ Box (Below w3.heap.size w3 wr)) (fun iv _ => NN - (intOf iv).toNat)
  case atStart => exact ⟨0, Nat.zero_le _, rfl, boxed (Below.refl _ _)⟩
  case round =>
    obtain ⟨k, hk1, rfl, HEr⟩ := hrel
    by_cases hlt : k < NN
    · have tk : decide ((k : Int) < (NN : Int)) = true := decide_eq_true (by omega)
      have tk' : decide (k < NN) = true := decide_eq_true hlt
      obtain ⟨b2, e2, -, x2⟩ := (HO2'.out.below HEr.out) k (by omega)
      subst e2
      have x3 := (HO3.out.below HEr.out).get k (by omega)
      have x4 := (HO3.out.below HEr.out).get (k + 1) (by omega)
      rw [hLg k (by omega)] at x3
      rw [hLg (k + 1) (by omega)] at x4
      have hst := hBg k hlt
      have hl1 := hBl k
      have hl2 := hBl (k + 1)
      generalize LS.getD k 0 = G at *
      generalize Bg LS k = A at *
      generalize Bg LS (k + 1) = C at *
      have eq1 : IntKind.i64.wrap ((C : Int) - (A : Int)) = (G : Nat) := by rw [IntKind.wrap_i64]; omega
      have eq2 : IntKind.i64.wrap ((k : Int) + 1) = ((k + 1 : Nat) : Int) := by rw [IntKind.wrap_i64]; omega
      clear hst
      go_wp2_with fail
      go_quiet (fail)
      have HE4 : Box (Below w3.heap.size w3 (wr.drewN nq)) := boxed (HEr.out.trans (bel_drewN _ _ _))
      clear x2 x3 x4 eq1 eq2
      generalize wr.drewN nq = w4 at *
      go_wp2_with fail
      go_roundw
      case rel => exact ⟨k + 1, by omega, by go_num, HE4⟩
      case measure => simp [intOf]; omega
    · obtain rfl : k = NN := by omega
      have tk : decide ((k : Int) < (k : Int)) = false := decide_eq_false (by omega)
      go_wp2
      go_ret
      exact ⟨rfl, HB3.out.trans (HEr.out.mono HB3.out.size)⟩

theorem contract (H : Type) (enc : TypeId × Value → H) (W : World) (base : Nat) (args : Array Value) (ds gs : List (DataW H)) (before : List MemPlace)
    (hval0 : ∀ (j : Nat) t v, Try.f4.params[j]? = some t → args[j]? = some v → Value.okWide Try.prog W .any base t v)
    (hW : DataW.Whole enc Try.prog Try.f4.params.toList Rows.parasSplitsSpec.vars false W args.toList ds gs before) (hk : Rows.uptoSmall H (ds ++ gs) = true) :
    Calls Try.prog 4 args W fun e W' => ∃ v, e = .returned v ∧ Rows.parasSplitsSpec.post enc Try.prog Try.f4 false true false false W args v W' := by
  have hval : ∀ (j : Nat) t v, Try.f4.params[j]? = some t → args[j]? = some v → Value.okWide Try.prog W .any base t v := hval0
  have hW' := hW
  obtain ⟨p, q, hA0, hV, rfl, hfz, hnd⟩ := hW
  have hA : DataW.TrodAll enc Try.prog W 0 (fun _ => true) true Try.f4.params.toList args.toList ds p := hA0
  rw [Try.params4] at hA hval
  obtain ⟨v0, vs0, d0, ds0, p0, q0, hargs, rfl, rfl, h0, r0⟩ := trodAll_cons hA
  obtain ⟨rfl, rfl, rfl⟩ := trodAll_nil r0
  obtain rfl : args = #[v0] := by cases args; simp_all
  obtain ⟨rfl, rfl⟩ := trodVars_none hV
  obtain ⟨a0, rfl, rfl, rfl, w0⟩ := open_string Try.underlying9 (hval 0 9 v0 rfl rfl) h0
  clear hA0 hval0
  simp only [List.append_nil] at hW' hk
  refine (walk a0 w0 (short hk) W).mono fun e W' ⟨he, hg⟩ => ?_
  subst he
  exact ⟨_, rfl, _, _, _, [], [], [], hW', trodAll_mk1 (shut_bool Try.underlying4 _), (trodAll_cons_mk (shut_string Try.underlying9 w0) trodAll_mk0), rfl, hg.frame _, fun h => by cases h⟩

set_option maxRecDepth 100000 in
theorem lifted (os : Os) (started : os.Started) (H : Type) (enc : TypeId × Value → H) (F : Stop.Interp) :
    ReturnsInHanded {} Try.checked os 4 .any ((Rows.OpenSpec.upto Rows.parasSplitsSpec).pre6 enc Try.prog Try.f4 Rows.parasSplitsUptoRow.domain false) (((Rows.OpenSpec.upto Rows.parasSplitsSpec).at F).post enc Try.prog Try.f4 false true false false) := by
  refine returnsInHanded_of_cond (C := Try.checked) (s := Rows.OpenSpec.upto Rows.parasSplitsSpec) (k := Rows.uptoSmall) rfl own started (by kernel_rfl) Try.func4
    (OpenSpec.witness (enc := enc) (C := Try.checked) (s := Rows.OpenSpec.upto Rows.parasSplitsSpec) (k := Rows.uptoSmall) rfl false ⟨#[], #[.string ByteArray.empty], []⟩ 8 (by kernel_rfl) (by kernel_rfl) (by kernel_rfl)
      (x := ([.lit (.string [])], [], [])) (by kernel_rfl) rfl (by kernel_rfl)) ?_
  intro W base args ds gs before hval hW _ hk _
  exact contract H enc W base args ds gs before hval hW hk

theorem proved : Rows.ParasSplitsUptoSaid :=
  OpenClaim.holds_of_cond 4 Try.f4 rfl rfl rfl rfl rfl rfl rfl ⟨rfl, rfl, rfl, rfl, rfl⟩ rfl rfl rfl rfl rfl (by kernel_rfl) Try.func4 (by kernel_rfl)
    (of_decide_eq_true (by kernel_rfl)) (by unfold Func.isWrapper; first | (rw [if_pos (by decide +kernel)]; kernel_rfl) | (rw [if_neg (by decide +kernel)]; exact ⟨rfl, rfl⟩))
    (fun os started H enc _ F => lifted os started H enc F)
#print axioms proved
end Go.Proofs.Ytholifolkimkdaa.parasSplits
