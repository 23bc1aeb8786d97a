/-
  For every text, every edits and every two places, of at most 1048576 values and letters together, the law PiecesReads answers true and leaves its arguments as they were: a part, a byte and whether a place may be named are told as the document tells them.
-/
import Derived.Test.YtfikmlgmklnlaaaRows
import Derived.WalkKit
import Derived.ProofKit
import Derived.OpenShut
import Derived.ShutString
import Derived.ChangeOld
import Derived.Below
import Derived.Test.YtfikmlgmklnlaaaXb
namespace Go.Proofs.Ytfikmlgmklnlaaa.piecesReads
open Go.ChangeShapes Go.WideShapes Go.ChangeAt Go.RowKit
open Go.ChangeMaps (open_string shut_string)
set_option linter.unusedVariables false
set_option linter.unusedSimpArgs false

theorem own : ownKnob Try.prog.godebug = none := by kernel_rfl
theorem laidOut : laidOutB Try.prog = true := by kernel_rfl

set_option maxRecDepth 100000 in
set_option maxHeartbeats 4000000 in
theorem walk (w : World) (a0 : ByteArray) (w0 : a0.size ≤ maxLen) (hs0 : a0.size ≤ 1048576) (ao1 : Option Addr) (n1 cap1 : Nat) (O1 : Nat → Opr) (hn1 : n1 ≤ 1048576) (hO1 : OpsAt w ao1 n1 O1) (x2 y2 : Int) (hx2 : (-9223372036854775808 ≤ x2 ∧ x2 ≤ 9223372036854775807) ∧ -9223372036854775808 ≤ y2 ∧ y2 ≤ 9223372036854775807) :
    Calls Try.prog 5 #[.string a0, .slice ao1 n1 cap1, .agg #[.int .i64 x2, .int .i64 y2]] w fun e w' => e = .returned (.bool true) ∧ Below w.heap.size w w' := by
  obtain ⟨N, hN⟩ := cnt_ex a0
  have hri := fun w => right_any a0 w N hN hs0
  by_cases hr : a0.size ≤ 4096 ∧ badAt a0 N < 0
  · rw [decide_eq_true hr] at hri
    have hpl := fun w' (hb : Below w.heap.size w w') => played_any a0 ao1 n1 cap1 O1 w' (hO1.below hb) N hN (by omega) hr.2 hn1
    clear hN hr hO1
    go_enter Try.func5, Try.ntmps5
    go_wp2_with fail
    refine (awake_any _).mono ?_
    rintro e w1 ⟨rfl, hb1⟩
    rw [World.size_alloc] at hb1
    have HB1 := boxed hb1
    clear hb1
    go_wp2_with fail
    refine (hri _).mono ?_
    rintro e w2 ⟨rfl, hb2⟩
    have HB2 := boxed (below_step HB1.out (by simp) hb2)
    clear hb2 hri
    go_wp2_with fail
    refine (hpl _ (below_box HB2.out)).mono ?_
    rintro e w3 ⟨tb, r, rfl, -, hl⟩
    have HB3 := boxed (below_step HB2.out (by simp) hl.frame)
    obtain ⟨u0, u1⟩ := box_kept HB3.out
    have hrs := hl.size
    obtain ⟨S, x, A, T, t1, -, t3, -⟩ := hl
    have HT := boxed t1
    have HF := boxed t3
    clear t1 t3 hpl
    go_wp2_with fail
    go_quiet (fail)
    go_wp2_with fail
    have HB4 : Box (Below w3.heap.size w3 (w3.drewN nq)) := boxed (bel_drewN _ _ _)
    have hT4 := HT.out.below HB4.out
    have hrd := read_part hT4 x2 y2 hx2.1 hx2.2
    have hck := fun w' (hb : Below (w3.drewN nq).heap.size (w3.drewN nq) w') => textCheck_any (hT4.below hb) y2 hx2.2
    have hba := fun w' (hb : Below (w3.drewN nq).heap.size (w3.drewN nq) w') => textByteAt_any (hT4.below hb) x2 hx2.1
    rw [HF.out] at hrd hck hba
    have hrsp := fun w => refSpan_any r x2 y2 w (by omega)
    have hrck := fun w => refCheck_any r y2 w (by omega)
    have hun : undef = Value.tuple #[] := rfl
    have hbox : w.heap.size < (w3.drewN nq).heap.size := by have := HB3.out.size; simp at this; simp; omega
    clear HT HF u0 u1 hT4
    by_cases hcode : spe (bl r) x2 y2 = 0
    · have hz := spe_zero _ _ _ hcode
      rw [bl_len] at hz
      obtain ⟨i, hi⟩ : ∃ i : Nat, x2 = (i : Int) := ⟨x2.toNat, by omega⟩
      obtain ⟨j, hj⟩ : ∃ j : Nat, y2 = (j : Int) := ⟨y2.toNat, by omega⟩
      subst hi
      subst hj
      have e1 : rdp (bl r) (i : Int) (j : Int) = ((bl r).drop i).take (j - i) := by
        unfold rdp
        rw [if_pos hcode]
        congr 1
        omega
      rw [e1, part_ext, hcode] at hrd
      rw [hcode] at hrsp
      have hsl := slice_lh r i j (by omega) (by omega)
      have p1 : decide ((0 : Int) ≤ (i : Int)) = true := decide_eq_true (by omega)
      clear e1 hcode
      generalize cke (bl r) (j : Int) = CE at *
      generalize r.extract i j = RE at *
      by_cases hin : i < r.size
      · rw [bat_bl r i hin] at hba
        have hix := idx r i hin (i : Int) rfl
        have p2 : decide ((i : Int) < (r.size : Int)) = true := decide_eq_true (by omega)
        have p2' : decide (i < r.size) = true := decide_eq_true hin
        generalize bt r i = V at *
        go_wp2_with fail
        refine hrd.mono ?_
        rintro e w5 ⟨rfl, hb5⟩
        have HB5 := boxed hb5
        clear hb5 hrd
        go_wp2_with fail
        refine (hrsp _).mono ?_
        rintro e w' ⟨rfl, hw'⟩
        subst w'
        clear hrsp
        go_wp2_with fail
        refine (hck _ HB5.out).mono ?_
        rintro e w6 ⟨rfl, hb6⟩
        have HB6 := boxed (below_step HB5.out (Nat.le_refl _) hb6)
        clear hb6 hck
        go_wp2_with fail
        refine (hrck _).mono ?_
        rintro e w' ⟨rfl, hw'⟩
        subst w'
        clear hrck
        go_wp2_with fail
        refine (hba _ HB6.out).mono ?_
        rintro e w7 ⟨rfl, hb7⟩
        have HB7 := boxed (below_step HB6.out (Nat.le_refl _) hb7)
        clear hb7 hba
        go_wp2
        go_ret
        exact ⟨by simp, below_step (below_step (below_box HB3.out) (Nat.le_refl _) HB4.out) (Nat.le_refl _) HB7.out⟩
      · have hb0 : bat (bl r) (i : Int) = (0, false) := by unfold bat; rw [bl_len, if_neg (by omega)]
        rw [hb0] at hba
        have p2 : decide ((i : Int) < (r.size : Int)) = false := decide_eq_false (by omega)
        have p2' : decide (i < r.size) = false := decide_eq_false hin
        clear hb0
        go_wp2_with fail
        refine hrd.mono ?_
        rintro e w5 ⟨rfl, hb5⟩
        have HB5 := boxed hb5
        clear hb5 hrd
        go_wp2_with fail
        refine (hrsp _).mono ?_
        rintro e w' ⟨rfl, hw'⟩
        subst w'
        clear hrsp
        go_wp2_with fail
        refine (hck _ HB5.out).mono ?_
        rintro e w6 ⟨rfl, hb6⟩
        have HB6 := boxed (below_step HB5.out (Nat.le_refl _) hb6)
        clear hb6 hck
        go_wp2_with fail
        refine (hrck _).mono ?_
        rintro e w' ⟨rfl, hw'⟩
        subst w'
        clear hrck
        go_wp2_with fail
        refine (hba _ HB6.out).mono ?_
        rintro e w7 ⟨rfl, hb7⟩
        have HB7 := boxed (below_step HB6.out (Nat.le_refl _) hb7)
        clear hb7 hba
        go_wp2
        go_ret
        exact ⟨by simp, below_step (below_step (below_box HB3.out) (Nat.le_refl _) HB4.out) (Nat.le_refl _) HB7.out⟩
    · have e1 : rdp (bl r) x2 y2 = [] := by unfold rdp; rw [if_neg hcode]
      have c1 : (spe (bl r) x2 y2 == 0) = false := by simpa using hcode
      have c2 : (spe (bl r) x2 y2 != 0) = true := by simpa using hcode
      rw [e1, show tx [] = (⟨#[]⟩ : ByteArray) from rfl] at hrd
      clear e1 hcode
      generalize spe (bl r) x2 y2 = SE at *
      generalize cke (bl r) y2 = CE at *
      by_cases hneg : x2 < 0
      · have hb0 : bat (bl r) x2 = (0, false) := by unfold bat; rw [if_neg (by omega)]
        rw [hb0] at hba
        have p1 : decide ((0 : Int) ≤ x2) = false := decide_eq_false (by omega)
        clear hb0
        go_wp2_with fail
        refine hrd.mono ?_
        rintro e w5 ⟨rfl, hb5⟩
        have HB5 := boxed hb5
        clear hb5 hrd
        go_wp2_with fail
        refine (hrsp _).mono ?_
        rintro e w' ⟨rfl, hw'⟩
        subst w'
        clear hrsp
        go_wp2_with fail
        refine (hck _ HB5.out).mono ?_
        rintro e w6 ⟨rfl, hb6⟩
        have HB6 := boxed (below_step HB5.out (Nat.le_refl _) hb6)
        clear hb6 hck
        go_wp2_with fail
        refine (hrck _).mono ?_
        rintro e w' ⟨rfl, hw'⟩
        subst w'
        clear hrck
        go_wp2_with fail
        refine (hba _ HB6.out).mono ?_
        rintro e w7 ⟨rfl, hb7⟩
        have HB7 := boxed (below_step HB6.out (Nat.le_refl _) hb7)
        clear hb7 hba
        go_wp2
        go_ret
        exact ⟨by simp, below_step (below_step (below_box HB3.out) (Nat.le_refl _) HB4.out) (Nat.le_refl _) HB7.out⟩
      · obtain ⟨i, hi⟩ : ∃ i : Nat, x2 = (i : Int) := ⟨x2.toNat, by omega⟩
        subst hi
        have p1 : decide ((0 : Int) ≤ (i : Int)) = true := decide_eq_true (by omega)
        by_cases hin : i < r.size
        · rw [bat_bl r i hin] at hba
          have hix := idx r i hin (i : Int) rfl
          have p2 : decide ((i : Int) < (r.size : Int)) = true := decide_eq_true (by omega)
          have p2' : decide (i < r.size) = true := decide_eq_true hin
          generalize bt r i = V at *
          go_wp2_with fail
          refine hrd.mono ?_
          rintro e w5 ⟨rfl, hb5⟩
          have HB5 := boxed hb5
          clear hb5 hrd
          go_wp2_with fail
          refine (hrsp _).mono ?_
          rintro e w' ⟨rfl, hw'⟩
          subst w'
          clear hrsp
          go_wp2_with fail
          refine (hck _ HB5.out).mono ?_
          rintro e w6 ⟨rfl, hb6⟩
          have HB6 := boxed (below_step HB5.out (Nat.le_refl _) hb6)
          clear hb6 hck
          go_wp2_with fail
          refine (hrck _).mono ?_
          rintro e w' ⟨rfl, hw'⟩
          subst w'
          clear hrck
          go_wp2_with fail
          refine (hba _ HB6.out).mono ?_
          rintro e w7 ⟨rfl, hb7⟩
          have HB7 := boxed (below_step HB6.out (Nat.le_refl _) hb7)
          clear hb7 hba
          go_wp2
          go_ret
          exact ⟨by simp, below_step (below_step (below_box HB3.out) (Nat.le_refl _) HB4.out) (Nat.le_refl _) HB7.out⟩
        · have hb0 : bat (bl r) (i : Int) = (0, false) := by unfold bat; rw [bl_len, if_neg (by omega)]
          rw [hb0] at hba
          have p2 : decide ((i : Int) < (r.size : Int)) = false := decide_eq_false (by omega)
          have p2' : decide (i < r.size) = false := decide_eq_false hin
          clear hb0
          go_wp2_with fail
          refine hrd.mono ?_
          rintro e w5 ⟨rfl, hb5⟩
          have HB5 := boxed hb5
          clear hb5 hrd
          go_wp2_with fail
          refine (hrsp _).mono ?_
          rintro e w' ⟨rfl, hw'⟩
          subst w'
          clear hrsp
          go_wp2_with fail
          refine (hck _ HB5.out).mono ?_
          rintro e w6 ⟨rfl, hb6⟩
          have HB6 := boxed (below_step HB5.out (Nat.le_refl _) hb6)
          clear hb6 hck
          go_wp2_with fail
          refine (hrck _).mono ?_
          rintro e w' ⟨rfl, hw'⟩
          subst w'
          clear hrck
          go_wp2_with fail
          refine (hba _ HB6.out).mono ?_
          rintro e w7 ⟨rfl, hb7⟩
          have HB7 := boxed (below_step HB6.out (Nat.le_refl _) hb7)
          clear hb7 hba
          go_wp2
          go_ret
          exact ⟨by simp, below_step (below_step (below_box HB3.out) (Nat.le_refl _) HB4.out) (Nat.le_refl _) HB7.out⟩
  · rw [decide_eq_false hr] at hri
    clear hN hr hO1
    go_enter Try.func5, Try.ntmps5
    go_wp2_with fail
    refine (awake_any _).mono ?_
    rintro e w1 ⟨rfl, hb1⟩
    rw [World.size_alloc] at hb1
    have HB1 := boxed hb1
    clear hb1
    go_wp2_with fail
    refine (hri _).mono ?_
    rintro e w2 ⟨rfl, hb2⟩
    have HB2 := boxed (below_step HB1.out (by simp) hb2)
    clear hb2 hri
    go_wp2
    go_ret
    exact ⟨rfl, below_box HB2.out⟩

set_option maxRecDepth 100000 in
theorem contract (H : Type) (enc : TypeId × Value → H) (W : World) (base : Nat) (args : Array Value) (ds gs : List (DataW H)) (before : List MemPlace)
    (hval0 : ∀ (j : Nat) t v, Try.f5.params[j]? = some t → args[j]? = some v → Value.okWide Try.prog W .any base t v)
    (hW : DataW.Whole enc Try.prog Try.f5.params.toList Rows.piecesReadsSpec.vars false W args.toList ds gs before) (hk : Rows.uptoSmall H (ds ++ gs) = true) :
    Calls Try.prog 5 args W fun e W' => ∃ v, e = .returned v ∧ Rows.piecesReadsSpec.post enc Try.prog Try.f5 false true false false W args v W' := by
  have hval : ∀ (j : Nat) t v, Try.f5.params[j]? = some t → args[j]? = some v → Value.okWide Try.prog W .any base t v := hval0
  have hW' := hW
  obtain ⟨p, q, hA0, hV, rfl, hfz, hnd⟩ := hW
  have hA : DataW.TrodAll enc Try.prog W 0 (fun _ => true) true Try.f5.params.toList args.toList ds p := hA0
  rw [Try.params5] at hA hval
  obtain ⟨v0, vs0, d0, ds0, p0, q0, hargs, rfl, rfl, h0, r0⟩ := trodAll_cons hA
  obtain ⟨v1, vs1, d1, ds1, p1, q1, rfl, rfl, rfl, h1, r1⟩ := trodAll_cons r0
  obtain ⟨v2, vs2, d2, ds2, p2, q2, rfl, rfl, rfl, h2, r2⟩ := trodAll_cons r1
  obtain ⟨rfl, rfl, rfl⟩ := trodAll_nil r2
  obtain rfl : args = #[v0, v1, v2] := by cases args; simp_all
  obtain ⟨rfl, rfl⟩ := trodVars_none hV
  obtain ⟨a0, rfl, rfl, rfl, w0⟩ := open_string Try.underlying9 (hval 0 9 v0 rfl rfl) h0
  obtain ⟨ao1, n1, cap1, rfl⟩ := okWide_slice Try.underlying22 (hval 1 22 v1 rfl rfl)
  have k1 := h1
  have lt1 : ∀ x ∈ p1, x.block < W.heap.size := by obtain ⟨m, hm⟩ := k1; exact DataW.trod_lt m _ _ _ hm
  have k2 := h2
  have lt2 : ∀ x ∈ p2, x.block < W.heap.size := by obtain ⟨m, hm⟩ := k2; exact DataW.trod_lt m _ _ _ hm
  clear hA0 hval0
  simp only [List.append_nil] at hW' hk
  have bulk := of_decide_eq_true hk
  obtain ⟨hn1, O1, hO1⟩ : n1 ≤ 1048576 ∧ ∃ O, OpsAt W ao1 n1 O := by
    obtain ⟨fuel, hf⟩ := k1
    exact open_ops hf (by have := bulk; simp only [Rows.uptoBulkAll] at this; omega)
  obtain ⟨x2, y2, rfl, hx2⟩ : ∃ x y : Int, v2 = .agg #[.int .i64 x, .int .i64 y] ∧ (-9223372036854775808 ≤ x ∧ x ≤ 9223372036854775807) ∧ -9223372036854775808 ≤ y ∧ y ≤ 9223372036854775807 := by
    obtain ⟨fuel, hf⟩ := k2
    exact pair_value Try.underlying36 (by kernel_rfl) hf
  refine (walk W a0 w0 (by have := bulk; simp only [Rows.uptoBulkAll, Rows.uptoBulk, Array.length_toList] at this; show a0.data.size ≤ _; omega) ao1 n1 cap1 O1 hn1 hO1 x2 y2 hx2).mono fun e W' ⟨he, hg⟩ => ?_
  subst he
  exact ⟨_, rfl, _, _, _, [], _, [], hW', trodAll_mk1 (shut_bool Try.underlying4 _), (trodAll_cons_mk (shut_string Try.underlying9 w0) (trodAll_cons_mk (Below.trod laidOut (by kernel_rfl) (of_decide_eq_true (by kernel_rfl)) k1 hg lt1) (trodAll_cons_mk (Below.trod laidOut (by kernel_rfl) (of_decide_eq_true (by kernel_rfl)) k2 hg lt2) trodAll_mk0))), rfl, hg.frame _, fun h => by cases h⟩

set_option maxRecDepth 100000 in
theorem lifted (os : Os) (started : os.Started) (H : Type) (enc : TypeId × Value → H) (F : Stop.Interp) :
    ReturnsInHanded {} Try.checked os 5 .any ((Rows.OpenSpec.upto Rows.piecesReadsSpec).pre6 enc Try.prog Try.f5 Rows.piecesReadsUptoRow.domain false) (((Rows.OpenSpec.upto Rows.piecesReadsSpec).at F).post enc Try.prog Try.f5 false true false false) := by
  refine returnsInHanded_of_cond (C := Try.checked) (s := Rows.OpenSpec.upto Rows.piecesReadsSpec) (k := Rows.uptoSmall) rfl own started (by kernel_rfl) Try.func5
    (OpenSpec.witness (enc := enc) (C := Try.checked) (s := Rows.OpenSpec.upto Rows.piecesReadsSpec) (k := Rows.uptoSmall) rfl false ⟨#[], #[.string ByteArray.empty, .slice none 0 0, .agg #[.int .i64 0, .int .i64 0]], []⟩ 8 (by kernel_rfl) (by kernel_rfl) (by kernel_rfl)
      (x := ([.lit (.string []), .nil, .agg [.lit (.int .i64 0), .lit (.int .i64 0)]], [], [])) (by kernel_rfl) rfl (by kernel_rfl)) ?_
  intro W base args ds gs before hval hW _ hk _
  exact contract H enc W base args ds gs before hval hW hk

theorem proved : Rows.PiecesReadsUptoSaid :=
  OpenClaim.holds_of_cond 5 Try.f5 rfl rfl rfl rfl rfl rfl rfl ⟨rfl, rfl, rfl, rfl, rfl⟩ rfl rfl rfl rfl rfl (by kernel_rfl) Try.func5 (by kernel_rfl)
    (of_decide_eq_true (by kernel_rfl)) (by unfold Func.isWrapper; first | (rw [if_pos (by decide +kernel)]; kernel_rfl) | (rw [if_neg (by decide +kernel)]; exact ⟨rfl, rfl⟩))
    (fun os started H enc _ F => lifted os started H enc F)
#print axioms proved
end Go.Proofs.Ytfikmlgmklnlaaa.piecesReads
