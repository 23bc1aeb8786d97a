/-
  For every text and every two lists of edits, of at most 1048576 values and letters together, the law PiecesCopies answers true and leaves its arguments as they were: a copy and what it was copied of are edited each by itself, and the other stays as it was.
-/
import Derived.Test.YtfikmlgmklnlaabRows
import Derived.WalkKit
import Derived.ProofKit
import Derived.OpenShut
import Derived.ShutString
import Derived.ChangeOld
import Derived.Below
import Derived.Test.YtfikmlgmklnlaabXe
namespace Go.Proofs.Ytfikmlgmklnlaab.piecesCopies
open Go.ChangeShapes Go.WideShapes Go.ChangeAt Go.RowKit
open Go.ChangeMaps (open_string shut_string)
set_option linter.unusedVariables false
set_option linter.unusedSimpArgs false

theorem own : ownKnob Try.prog.godebug = none := by kernel_rfl
theorem laidOut : laidOutB Try.prog = true := by kernel_rfl

set_option maxRecDepth 100000 in
set_option maxHeartbeats 6000000 in
theorem walk (w : World) (a0 : ByteArray) (w0 : a0.size ≤ maxLen) (hs0 : a0.size ≤ 1048576) (ao1 : Option Addr) (n1 cap1 : Nat) (O1 : Nat → Opr) (hn1 : n1 ≤ 1048576) (hO1 : OpsAt w ao1 n1 O1) (ao2 : Option Addr) (n2 cap2 : Nat) (O2 : Nat → Opr) (hn2 : n2 ≤ 1048576) (hO2 : OpsAt w ao2 n2 O2) :
    Calls Try.prog 4 #[.string a0, .slice ao1 n1 cap1, .slice ao2 n2 cap2] w fun e w' => e = .returned (.bool true) ∧ Below w.heap.size w w' := by
  obtain ⟨N, hN⟩ := cnt_ex a0
  have hri := fun w => right_any a0 w N hN hs0
  by_cases hr : a0.size ≤ 4096 ∧ badAt a0 N < 0
  · rw [decide_eq_true hr] at hri
    have hpl := fun w' (hb : Below w.heap.size w w') => played_any a0 ao1 n1 cap1 O1 w' (hO1.below hb) N hN (by omega) hr.2 hn1
    have HO2 := boxed hO2
    clear hN hr hO1 hO2
    go_enter Try.func4, Try.ntmps4
    go_wp2_with fail
    refine (awake_any _).mono ?_
    rintro e w1 ⟨rfl, hb1⟩
    have HB1 := boxed hb1
    clear hb1
    go_wp2_with fail
    refine (hri _).mono ?_
    rintro e w2 ⟨rfl, hb2⟩
    have HB2 := boxed (below_step HB1.out (Nat.le_refl _) hb2)
    clear hb2 hri
    go_wp2_with fail
    refine (hpl _ HB2.out).mono ?_
    rintro e w3 ⟨tb, r, rfl, -, hl⟩
    have hcp := copy_two hl
    clear hl hpl
    go_wp2_with fail
    refine hcp.mono ?_
    rintro e w4 ⟨tc, rfl, ht⟩
    have HT := boxed ht
    have hst : Calls Try.prog 11 #[.pointer (some ⟨tc, 0, none⟩)] w4 fun e w' => e = .returned (.string r) ∧ Below w4.heap.size w4 w' := by
      obtain ⟨S, x, A, T, y, C, U, h1, h2, h3, h4, h5, -⟩ := ht
      have := string_any h2
      rw [h5.2, tx_bl] at this
      exact this
    clear ht hcp
    go_wp2_with fail
    refine hst.mono ?_
    rintro e w5 ⟨rfl, hb5⟩
    have HT5 := boxed (HT.out.below hb5)
    clear hb5 hst HT
    go_wp2_with fail
    go_loopw [11, 12, 13] (fun av bv iv wr => ∃ (k : Nat) (ra rb : ByteArray), k ≤ n2 ∧ k ≤ 40 ∧ av = .string ra ∧ bv = .string rb ∧ iv = .int .i64 (k : Nat) ∧ Box (Two w2 wr tb tc ra rb)) (fun _ _ iv _ => 40 - (intOf iv).toNat)
    case atStart => exact ⟨0, r, r, Nat.zero_le _, by omega, rfl, rfl, rfl, HT5⟩
    case round =>
      obtain ⟨k, ra, rb, hk1, hk2, rfl, rfl, rfl, HTr⟩ := hrel
      clear HT5
      by_cases hlt : k < n2 ∧ k < 40
      · have hop := HO2.out k hlt.1
        obtain ⟨-, b, off, rfl, c0, c1, c2, c3⟩ := (HO2.out.below (below_step HB2.out (Nat.le_refl _) HTr.out.frame)) k hlt.1
        have t1 : decide ((k : Int) < (n2 : Int)) = true := decide_eq_true (by omega)
        have t1' : decide (k < n2) = true := decide_eq_true hlt.1
        have t2 : decide ((k : Int) < 40) = true := decide_eq_true (by omega)
        by_cases hev : k % 2 = 0
        · have hed := two_edit HTr.out (O2 k) hop.1
          have t4 : (k : Int).tmod 2 = 0 := by rw [Int.tmod_eq_emod_of_nonneg (by omega)]; omega
          have t3 : ((k : Int).tmod 2 == 0) = true := by rw [beq_iff_eq]; exact t4
          clear HTr hop
          generalize O2 k = o at *
          go_wp2_with fail
          refine hed.mono ?_
          rintro e w7 ⟨r', rfl, hl'⟩
          have HL' := boxed hl'
          clear hl' hed c0 c1 c2 c3
          go_wp2
          go_roundw
          case rel => exact ⟨k + 1, r', rb, by omega, by omega, rfl, rfl, by go_num, HL'⟩
          case measure => simp [intOf]; omega
        · have hed := two_edit HTr.out.symm (O2 k) hop.1
          have t4 : (k : Int).tmod 2 = 1 := by rw [Int.tmod_eq_emod_of_nonneg (by omega)]; omega
          have t3 : ((k : Int).tmod 2 == 0) = false := by rw [beq_eq_false_iff_ne, t4]; decide
          clear HTr hop
          generalize O2 k = o at *
          go_wp2_with fail
          refine hed.mono ?_
          rintro e w7 ⟨r', rfl, hl'⟩
          have HL' := boxed hl'.symm
          clear hl' hed c0 c1 c2 c3
          go_wp2
          go_roundw
          case rel => exact ⟨k + 1, ra, r', by omega, by omega, rfl, rfl, by go_num, HL'⟩
          case measure => simp [intOf]; omega
      · have hsz := HTr.out.size
        have HBr := boxed (below_step HB2.out (Nat.le_refl _) HTr.out.frame)
        obtain ⟨S, x, A, T, y, C, U, h1, h2, h3, h4, h5, -⟩ := HTr.out
        have sa := string_any h1
        have sb := fun w' (hb : Below wr.heap.size wr w') => string_any (h2.below hb)
        have la := fun w' (hb : Below wr.heap.size wr w') => lines_any (h1.below hb)
        have lb := fun w' (hb : Below wr.heap.size wr w') => lines_any (h2.below hb)
        rw [h5.1, tx_bl] at sa
        rw [h5.2, tx_bl] at sb
        rw [h5.1, ← les_all, bl_len] at la
        rw [h5.2, ← les_all, bl_len] at lb
        have ea := fun w => ends_any ra w (by omega)
        have eb := fun w => ends_any rb w (by omega)
        clear h1 h2 h3 h4 h5 HTr
        generalize les (bl ra) ra.size = LA at *
        generalize les (bl rb) rb.size = LB at *
        obtain ⟨tt, htt⟩ : ∃ tt : Bool, tt = decide ((k : Int) < (n2 : Int)) := ⟨_, rfl⟩
        cases tt with
        | true =>
          have hk40 : k = 40 := by
            have : (k : Int) < (n2 : Int) := of_decide_eq_true htt.symm
            omega
          subst hk40
          have t1 : decide ((40 : Int) < (n2 : Int)) = true := htt.symm
          clear htt hlt
          go_wp2_with fail
          refine sa.mono ?_
          rintro e w7 ⟨rfl, hb7⟩
          have HB7 := boxed hb7
          clear hb7 sa
          go_wp2_with fail
          refine (sb _ HB7.out).mono ?_
          rintro e w8 ⟨rfl, hb8⟩
          have HB8 := boxed (below_step HB7.out (Nat.le_refl _) hb8)
          clear hb8 sb
          go_wp2_with fail
          refine (la _ HB8.out).mono ?_
          rintro e w9 ⟨rfl, hb9⟩
          have HB9 := boxed (below_step HB8.out (Nat.le_refl _) hb9)
          clear hb9 la
          go_wp2_with fail
          refine (ea _).mono ?_
          rintro e w10 ⟨a10, c10, rfl, -, hb10⟩
          have HB10 := boxed (below_step HB9.out (Nat.le_refl _) hb10)
          clear hb10 ea
          go_wp2_with fail
          refine (lb _ HB10.out).mono ?_
          rintro e w11 ⟨rfl, hb11⟩
          have HB11 := boxed (below_step HB10.out (Nat.le_refl _) hb11)
          clear hb11 lb
          go_wp2_with fail
          refine (eb _).mono ?_
          rintro e w12 ⟨a12, c12, rfl, -, hb12⟩
          have HB12 := boxed (below_step HB11.out (Nat.le_refl _) hb12)
          clear hb12 eb
          go_wp2
          go_ret
          exact ⟨by simp, below_step HBr.out (Nat.le_refl _) HB12.out⟩
        | false =>
          have t1 : decide ((k : Int) < (n2 : Int)) = false := htt.symm
          have t1' : decide (k < n2) = false := by
            have := of_decide_eq_false htt.symm
            exact decide_eq_false (by omega)
          clear htt hlt
          go_wp2_with fail
          refine sa.mono ?_
          rintro e w7 ⟨rfl, hb7⟩
          have HB7 := boxed hb7
          clear hb7 sa
          go_wp2_with fail
          refine (sb _ HB7.out).mono ?_
          rintro e w8 ⟨rfl, hb8⟩
          have HB8 := boxed (below_step HB7.out (Nat.le_refl _) hb8)
          clear hb8 sb
          go_wp2_with fail
          refine (la _ HB8.out).mono ?_
          rintro e w9 ⟨rfl, hb9⟩
          have HB9 := boxed (below_step HB8.out (Nat.le_refl _) hb9)
          clear hb9 la
          go_wp2_with fail
          refine (ea _).mono ?_
          rintro e w10 ⟨a10, c10, rfl, -, hb10⟩
          have HB10 := boxed (below_step HB9.out (Nat.le_refl _) hb10)
          clear hb10 ea
          go_wp2_with fail
          refine (lb _ HB10.out).mono ?_
          rintro e w11 ⟨rfl, hb11⟩
          have HB11 := boxed (below_step HB10.out (Nat.le_refl _) hb11)
          clear hb11 lb
          go_wp2_with fail
          refine (eb _).mono ?_
          rintro e w12 ⟨a12, c12, rfl, -, hb12⟩
          have HB12 := boxed (below_step HB11.out (Nat.le_refl _) hb12)
          clear hb12 eb
          go_wp2
          go_ret
          exact ⟨by simp, below_step HBr.out (Nat.le_refl _) HB12.out⟩
  · rw [decide_eq_false hr] at hri
    clear hN hr hO1 hO2
    go_enter Try.func4, Try.ntmps4
    go_wp2_with fail
    refine (awake_any _).mono ?_
    rintro e w1 ⟨rfl, hb1⟩
    have HB1 := boxed hb1
    clear hb1
    go_wp2_with fail
    refine (hri _).mono ?_
    rintro e w2 ⟨rfl, hb2⟩
    have HB2 := boxed (below_step HB1.out (Nat.le_refl _) hb2)
    clear hb2 hri
    go_wp2
    go_ret
    exact ⟨rfl, HB2.out⟩

set_option maxRecDepth 100000 in
theorem contract (H : Type) (enc : TypeId × Value → H) (W : World) (base : Nat) (args : Array Value) (ds gs : List (DataW H)) (before : List MemPlace)
    (hval0 : ∀ (j : Nat) t v, Try.f4.params[j]? = some t → args[j]? = some v → Value.okWide Try.prog W .any base t v)
    (hW : DataW.Whole enc Try.prog Try.f4.params.toList Rows.piecesCopiesSpec.vars false W args.toList ds gs before) (hk : Rows.uptoSmall H (ds ++ gs) = true) :
    Calls Try.prog 4 args W fun e W' => ∃ v, e = .returned v ∧ Rows.piecesCopiesSpec.post enc Try.prog Try.f4 false true false false W args v W' := by
  have hval : ∀ (j : Nat) t v, Try.f4.params[j]? = some t → args[j]? = some v → Value.okWide Try.prog W .any base t v := hval0
  have hW' := hW
  obtain ⟨p, q, hA0, hV, rfl, hfz, hnd⟩ := hW
  have hA : DataW.TrodAll enc Try.prog W 0 (fun _ => true) true Try.f4.params.toList args.toList ds p := hA0
  rw [Try.params4] at hA hval
  obtain ⟨v0, vs0, d0, ds0, p0, q0, hargs, rfl, rfl, h0, r0⟩ := trodAll_cons hA
  obtain ⟨v1, vs1, d1, ds1, p1, q1, rfl, rfl, rfl, h1, r1⟩ := trodAll_cons r0
  obtain ⟨v2, vs2, d2, ds2, p2, q2, rfl, rfl, rfl, h2, r2⟩ := trodAll_cons r1
  obtain ⟨rfl, rfl, rfl⟩ := trodAll_nil r2
  obtain rfl : args = #[v0, v1, v2] := by cases args; simp_all
  obtain ⟨rfl, rfl⟩ := trodVars_none hV
  obtain ⟨a0, rfl, rfl, rfl, w0⟩ := open_string Try.underlying9 (hval 0 9 v0 rfl rfl) h0
  obtain ⟨ao1, n1, cap1, rfl⟩ := okWide_slice Try.underlying22 (hval 1 22 v1 rfl rfl)
  have k1 := h1
  have lt1 : ∀ x ∈ p1, x.block < W.heap.size := by obtain ⟨m, hm⟩ := k1; exact DataW.trod_lt m _ _ _ hm
  obtain ⟨ao2, n2, cap2, rfl⟩ := okWide_slice Try.underlying22 (hval 2 22 v2 rfl rfl)
  have k2 := h2
  have lt2 : ∀ x ∈ p2, x.block < W.heap.size := by obtain ⟨m, hm⟩ := k2; exact DataW.trod_lt m _ _ _ hm
  clear hA0 hval0
  simp only [List.append_nil] at hW' hk
  have bulk := of_decide_eq_true hk
  obtain ⟨hn1, O1, hO1⟩ : n1 ≤ 1048576 ∧ ∃ O, OpsAt W ao1 n1 O := by
    obtain ⟨fuel, hf⟩ := k1
    exact open_ops hf (by have := bulk; simp only [Rows.uptoBulkAll] at this; omega)
  obtain ⟨hn2, O2, hO2⟩ : n2 ≤ 1048576 ∧ ∃ O, OpsAt W ao2 n2 O := by
    obtain ⟨fuel, hf⟩ := k2
    exact open_ops hf (by have := bulk; simp only [Rows.uptoBulkAll] at this; omega)
  refine (walk W a0 w0 (by have := bulk; simp only [Rows.uptoBulkAll, Rows.uptoBulk, Array.length_toList] at this; show a0.data.size ≤ _; omega) ao1 n1 cap1 O1 hn1 hO1 ao2 n2 cap2 O2 hn2 hO2).mono fun e W' ⟨he, hg⟩ => ?_
  subst he
  exact ⟨_, rfl, _, _, _, [], _, [], hW', trodAll_mk1 (shut_bool Try.underlying4 _), (trodAll_cons_mk (shut_string Try.underlying9 w0) (trodAll_cons_mk (Below.trod laidOut (by kernel_rfl) (of_decide_eq_true (by kernel_rfl)) k1 hg lt1) (trodAll_cons_mk (Below.trod laidOut (by kernel_rfl) (of_decide_eq_true (by kernel_rfl)) k2 hg lt2) trodAll_mk0))), rfl, hg.frame _, fun h => by cases h⟩

set_option maxRecDepth 100000 in
theorem lifted (os : Os) (started : os.Started) (H : Type) (enc : TypeId × Value → H) (F : Stop.Interp) :
    ReturnsInHanded {} Try.checked os 4 .any ((Rows.OpenSpec.upto Rows.piecesCopiesSpec).pre6 enc Try.prog Try.f4 Rows.piecesCopiesUptoRow.domain false) (((Rows.OpenSpec.upto Rows.piecesCopiesSpec).at F).post enc Try.prog Try.f4 false true false false) := by
  refine returnsInHanded_of_cond (C := Try.checked) (s := Rows.OpenSpec.upto Rows.piecesCopiesSpec) (k := Rows.uptoSmall) rfl own started (by kernel_rfl) Try.func4
    (OpenSpec.witness (enc := enc) (C := Try.checked) (s := Rows.OpenSpec.upto Rows.piecesCopiesSpec) (k := Rows.uptoSmall) rfl false ⟨#[], #[.string ByteArray.empty, .slice none 0 0, .slice none 0 0], []⟩ 8 (by kernel_rfl) (by kernel_rfl) (by kernel_rfl)
      (x := ([.lit (.string []), .nil, .nil], [], [])) (by kernel_rfl) rfl (by kernel_rfl)) ?_
  intro W base args ds gs before hval hW _ hk _
  exact contract H enc W base args ds gs before hval hW hk

theorem proved : Rows.PiecesCopiesUptoSaid :=
  OpenClaim.holds_of_cond 4 Try.f4 rfl rfl rfl rfl rfl rfl rfl ⟨rfl, rfl, rfl, rfl, rfl⟩ rfl rfl rfl rfl rfl (by kernel_rfl) Try.func4 (by kernel_rfl)
    (of_decide_eq_true (by kernel_rfl)) (by unfold Func.isWrapper; first | (rw [if_pos (by decide +kernel)]; kernel_rfl) | (rw [if_neg (by decide +kernel)]; exact ⟨rfl, rfl⟩))
    (fun os started H enc _ F => lifted os started H enc F)
#print axioms proved
end Go.Proofs.Ytfikmlgmklnlaab.piecesCopies
