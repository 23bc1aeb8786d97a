/-
  For every text and every edits of at most 1048576 values and letters together the law PiecesShape answers true and leaves its arguments as they were: there are no more pieces than one and two for each edit, and the tree is no deeper than twice their binary digits.
-/
import Derived.Test.YtfikmlgmklnlaaaRows
import Derived.WalkKit
import Derived.ProofKit
import Derived.OpenShut
import Derived.ShutString
import Derived.ChangeOld
import Derived.Below
import Derived.Test.YtfikmlgmklnlaaaXa
namespace Go.Proofs.Ytfikmlgmklnlaaa.piecesShape
open Go.ChangeShapes Go.WideShapes Go.ChangeAt Go.RowKit
open Go.ChangeMaps (open_string shut_string)
set_option linter.unusedVariables false
set_option linter.unusedSimpArgs false

theorem own : ownKnob Try.prog.godebug = none := by kernel_rfl
theorem laidOut : laidOutB Try.prog = true := by kernel_rfl

set_option maxRecDepth 100000 in
set_option maxHeartbeats 2000000 in
theorem walk (w : World) (a0 : ByteArray) (w0 : a0.size ≤ maxLen) (hs0 : a0.size ≤ 1048576) (ao1 : Option Addr) (n1 cap1 : Nat) (O1 : Nat → Opr) (hn1 : n1 ≤ 1048576) (hO1 : OpsAt w ao1 n1 O1) :
    Calls Try.prog 7 #[.string a0, .slice ao1 n1 cap1] w fun e w' => e = .returned (.bool true) ∧ Below w.heap.size w w' := by
  obtain ⟨N, hN⟩ := cnt_ex a0
  have hri := fun w => right_any a0 w N hN hs0
  by_cases hr : a0.size ≤ 4096 ∧ badAt a0 N < 0
  · rw [decide_eq_true hr] at hri
    have hpl := fun w' (hb : Below w.heap.size w w') => played_any a0 ao1 n1 cap1 O1 w' (hO1.below hb) N hN (by omega) hr.2 hn1
    clear hN hr hO1
    go_enter Try.func7, Try.ntmps7
    go_wp2_with fail
    refine (awake_any _).mono ?_
    rintro e w1 ⟨rfl, hb1⟩
    have HB1 := boxed hb1
    clear hb1
    go_wp2_with fail
    refine (hri _).mono ?_
    rintro e w2 ⟨rfl, hb2⟩
    have HB2 := boxed (below_step HB1.out (Nat.le_refl _) hb2)
    clear hb2 hri
    go_wp2_with fail
    refine (hpl _ HB2.out).mono ?_
    rintro e w3 ⟨tb, r, rfl, -, hl⟩
    have HB3 := boxed (below_step HB2.out (Nat.le_refl _) hl.frame)
    have hrs := hl.size
    obtain ⟨S, x, A, T, t1, -, t3, t4, -⟩ := hl
    have hpc := pieces_any t1
    have hdp := fun w' (hb : Below w3.heap.size w3 w') => depth_any (t1.below hb)
    have hnum := t1.tree.nums
    have hfd := flat_deep t4.2
    have hpl1 := t4.1
    have hk60 : min n1 60 ≤ 60 := by omega
    by_cases hem : r.size = 0
    · have hre : r = ⟨#[]⟩ := by
        apply ByteArray.ext
        exact Array.eq_empty_of_size_eq_zero hem
      have hf0 : T.flat.length = 0 := by rw [t3, bl_len]; exact hem
      have hp0 : T.pcs.length = 0 := by omega
      have hd0 : T.dep = 0 := by have := dep_le T; omega
      rw [hp0] at hpc
      rw [hd0] at hdp
      subst hre
      clear t1 t3 t4 hpl hnum hfd hpl1 hem hf0 hp0 hd0
      generalize min n1 60 = K at *
      go_wp2_with fail
      refine hpc.mono ?_
      rintro e w4 ⟨rfl, hb4⟩
      have HB4 := boxed hb4
      clear hb4 hpc
      go_wp2_with fail
      refine (hdp _ HB4.out).mono ?_
      rintro e w5 ⟨rfl, hb5⟩
      have HB5 := boxed (below_step HB4.out (Nat.le_refl _) hb5)
      clear hb5 hdp
      go_wp2
      go_ret
      exact ⟨by simp, below_step HB3.out (Nat.le_refl _) HB5.out⟩
    · have hne := not_empty r (by omega)
      have hp1 : 1 ≤ T.pcs.length := pcs_pos (by intro c; rw [t3] at c; have := congrArg List.length c; rw [bl_len] at this; exact hem (by simpa using this))
      have hd1 : 1 ≤ T.dep := by
        cases T with
        | nil => simp [Tr.pcs] at hp1
        | node l p r => simp only [Tr.dep]; omega
      have hPb : T.pcs.length ≤ 65536 := by have := t1.len; omega
      have hdg := fun w => digits_any T.pcs.length w (by omega)
      have hdl := dgt_le _ T.pcs.length (Nat.le_refl _)
      have q1 : decide ((1 : Int) ≤ (T.pcs.length : Int)) = true := decide_eq_true (by omega)
      have q1' : decide (1 ≤ T.pcs.length) = true := decide_eq_true hp1
      have q2 : decide ((T.pcs.length : Int) ≤ 2 * (((min n1 60 : Nat)) : Int) + 1) = true := decide_eq_true (by omega)
      have q3 : decide ((1 : Int) ≤ (T.dep : Int)) = true := decide_eq_true (by omega)
      have q3' : decide (1 ≤ T.dep) = true := decide_eq_true hd1
      have q4 : decide ((T.dep : Int) ≤ 2 * (dgt T.pcs.length : Int)) = true := decide_eq_true (by omega)
      clear t1 t3 t4 hpl hnum hfd hpl1 hem hp1 hd1
      generalize min n1 60 = K at *
      generalize dgt T.pcs.length = G at *
      generalize T.pcs.length = P at *
      generalize T.dep = D at *
      go_wp2_with fail
      refine hpc.mono ?_
      rintro e w4 ⟨rfl, hb4⟩
      have HB4 := boxed hb4
      clear hb4 hpc
      go_wp2_with fail
      refine (hdp _ HB4.out).mono ?_
      rintro e w5 ⟨rfl, hb5⟩
      have HB5 := boxed (below_step HB4.out (Nat.le_refl _) hb5)
      clear hb5 hdp
      go_wp2_with (go_at_call 27; refine (hdg _).mono ?_; rintro e w' ⟨rfl, hw'⟩; subst w')
      go_ret
      exact ⟨by simp, below_step HB3.out (Nat.le_refl _) HB5.out⟩
  · rw [decide_eq_false hr] at hri
    clear hN hr hO1
    go_enter Try.func7, Try.ntmps7
    go_wp2_with fail
    refine (awake_any _).mono ?_
    rintro e w1 ⟨rfl, hb1⟩
    have HB1 := boxed hb1
    clear hb1
    go_wp2_with fail
    refine (hri _).mono ?_
    rintro e w2 ⟨rfl, hb2⟩
    have HB2 := boxed (below_step HB1.out (Nat.le_refl _) hb2)
    clear hb2 hri
    go_wp2
    go_ret
    exact ⟨rfl, HB2.out⟩

set_option maxRecDepth 100000 in
theorem contract (H : Type) (enc : TypeId × Value → H) (W : World) (base : Nat) (args : Array Value) (ds gs : List (DataW H)) (before : List MemPlace)
    (hval0 : ∀ (j : Nat) t v, Try.f7.params[j]? = some t → args[j]? = some v → Value.okWide Try.prog W .any base t v)
    (hW : DataW.Whole enc Try.prog Try.f7.params.toList Rows.piecesShapeSpec.vars false W args.toList ds gs before) (hk : Rows.uptoSmall H (ds ++ gs) = true) :
    Calls Try.prog 7 args W fun e W' => ∃ v, e = .returned v ∧ Rows.piecesShapeSpec.post enc Try.prog Try.f7 false true false false W args v W' := by
  have hval : ∀ (j : Nat) t v, Try.f7.params[j]? = some t → args[j]? = some v → Value.okWide Try.prog W .any base t v := hval0
  have hW' := hW
  obtain ⟨p, q, hA0, hV, rfl, hfz, hnd⟩ := hW
  have hA : DataW.TrodAll enc Try.prog W 0 (fun _ => true) true Try.f7.params.toList args.toList ds p := hA0
  rw [Try.params7] at hA hval
  obtain ⟨v0, vs0, d0, ds0, p0, q0, hargs, rfl, rfl, h0, r0⟩ := trodAll_cons hA
  obtain ⟨v1, vs1, d1, ds1, p1, q1, rfl, rfl, rfl, h1, r1⟩ := trodAll_cons r0
  obtain ⟨rfl, rfl, rfl⟩ := trodAll_nil r1
  obtain rfl : args = #[v0, v1] := by cases args; simp_all
  obtain ⟨rfl, rfl⟩ := trodVars_none hV
  obtain ⟨a0, rfl, rfl, rfl, w0⟩ := open_string Try.underlying9 (hval 0 9 v0 rfl rfl) h0
  obtain ⟨ao1, n1, cap1, rfl⟩ := okWide_slice Try.underlying22 (hval 1 22 v1 rfl rfl)
  have k1 := h1
  have lt1 : ∀ x ∈ p1, x.block < W.heap.size := by obtain ⟨m, hm⟩ := k1; exact DataW.trod_lt m _ _ _ hm
  clear hA0 hval0
  simp only [List.append_nil] at hW' hk
  have bulk := of_decide_eq_true hk
  obtain ⟨hn1, O1, hO1⟩ : n1 ≤ 1048576 ∧ ∃ O, OpsAt W ao1 n1 O := by
    obtain ⟨fuel, hf⟩ := k1
    exact open_ops hf (by have := bulk; simp only [Rows.uptoBulkAll] at this; omega)
  refine (walk W a0 w0 (by have := bulk; simp only [Rows.uptoBulkAll, Rows.uptoBulk, Array.length_toList] at this; show a0.data.size ≤ _; omega) ao1 n1 cap1 O1 hn1 hO1).mono fun e W' ⟨he, hg⟩ => ?_
  subst he
  exact ⟨_, rfl, _, _, _, [], _, [], hW', trodAll_mk1 (shut_bool Try.underlying4 _), (trodAll_cons_mk (shut_string Try.underlying9 w0) (trodAll_cons_mk (Below.trod laidOut (by kernel_rfl) (of_decide_eq_true (by kernel_rfl)) k1 hg lt1) trodAll_mk0)), rfl, hg.frame _, fun h => by cases h⟩

set_option maxRecDepth 100000 in
theorem lifted (os : Os) (started : os.Started) (H : Type) (enc : TypeId × Value → H) (F : Stop.Interp) :
    ReturnsInHanded {} Try.checked os 7 .any ((Rows.OpenSpec.upto Rows.piecesShapeSpec).pre6 enc Try.prog Try.f7 Rows.piecesShapeUptoRow.domain false) (((Rows.OpenSpec.upto Rows.piecesShapeSpec).at F).post enc Try.prog Try.f7 false true false false) := by
  refine returnsInHanded_of_cond (C := Try.checked) (s := Rows.OpenSpec.upto Rows.piecesShapeSpec) (k := Rows.uptoSmall) rfl own started (by kernel_rfl) Try.func7
    (OpenSpec.witness (enc := enc) (C := Try.checked) (s := Rows.OpenSpec.upto Rows.piecesShapeSpec) (k := Rows.uptoSmall) rfl false ⟨#[], #[.string ByteArray.empty, .slice none 0 0], []⟩ 8 (by kernel_rfl) (by kernel_rfl) (by kernel_rfl)
      (x := ([.lit (.string []), .nil], [], [])) (by kernel_rfl) rfl (by kernel_rfl)) ?_
  intro W base args ds gs before hval hW _ hk _
  exact contract H enc W base args ds gs before hval hW hk

theorem proved : Rows.PiecesShapeUptoSaid :=
  OpenClaim.holds_of_cond 7 Try.f7 rfl rfl rfl rfl rfl rfl rfl ⟨rfl, rfl, rfl, rfl, rfl⟩ rfl rfl rfl rfl rfl (by kernel_rfl) Try.func7 (by kernel_rfl)
    (of_decide_eq_true (by kernel_rfl)) (by unfold Func.isWrapper; first | (rw [if_pos (by decide +kernel)]; kernel_rfl) | (rw [if_neg (by decide +kernel)]; exact ⟨rfl, rfl⟩))
    (fun os started H enc _ F => lifted os started H enc F)
#print axioms proved
end Go.Proofs.Ytfikmlgmklnlaaa.piecesShape
