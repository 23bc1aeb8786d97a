/-
  'regletlaw17.HyphenWords': the program's words and the document's, by their contracts.
-/
import Derived.Test.YtflhefgmgdgffaaRows
import Derived.WalkKit
import Derived.ProofKit
import Derived.OpenShut
import Derived.SizedLaws
import Derived.ShutString
import Derived.ChangeOld
import Derived.Below
import Derived.Test.YtflhefgmgdgffaaHyz
import Derived.Test.YtflhefgmgdgffaaHzd
import Derived.Test.YtflhefgmgdgffaaUn
import Derived.BigQuiet
namespace Go.Proofs.Ytflhefgmgdgffaa.hyphenWords
open Go.ChangeShapes Go.WideShapes Go.ChangeAt Go.RowKit
open Go.ChangeMaps (open_string shut_string)
set_option linter.unusedVariables false
set_option linter.unusedSimpArgs false

theorem own : ownKnob Try.prog.godebug = none := by kernel_rfl
theorem laidOut : laidOutB Try.prog = true := by kernel_rfl

set_option maxRecDepth 100000 in
set_option maxHeartbeats 2000000 in
theorem walk (w : World) (a0 : ByteArray) (w0 : a0.size ≤ maxLen) :
    Calls Try.prog 5 #[.string a0] w fun e w' => e = .returned (.bool true) ∧ Below w.heap.size w w' := by
  have HA := boxed (awake_any w)
  go_enter Try.func5, Try.ntmps5
  go_wp2_with fail
  refine HA.out.mono ?_
  rintro e w1 ⟨rfl, hb1⟩
  have HB1 := boxed hb1
  clear hb1 HA
  by_cases h2 : 2000 < a0.size
  · have t1 : decide ((2000 : Int) < (a0.size : Int)) = true := decide_eq_true (by omega)
    have t2 : decide (2000 < a0.size) = true := decide_eq_true h2
    clear h2
    go_wp2_with fail
    go_ret
    exact ⟨rfl, HB1.out⟩
  have t1 : decide ((2000 : Int) < (a0.size : Int)) = false := decide_eq_false (by omega)
  have t2 : decide (2000 < a0.size) = false := decide_eq_false h2
  have hrg := refright_any a0 w1 (by omega) (nR a0) (nR_cnt a0)
  have HRB := rt_bad a0
  have e0 : decide (badAt a0 (nR a0) < 0) = rt a0 := by
    cases h : rt a0 with
    | true => exact decide_eq_true (HRB.2 h)
    | false => exact decide_eq_false (fun c => by have := HRB.1 c; rw [h] at this; cases this)
  rw [e0] at hrg
  clear e0 HRB
  cases hrt : rt a0 with
  | false =>
    rw [hrt] at hrg
    clear hrt
    go_wp2_with fail
    refine hrg.mono ?_
    rintro e w2 ⟨rfl, hb2⟩
    have HB2 := boxed (below_step HB1.out (Nat.le_refl _) hb2)
    clear hb2 hrg
    go_wp2_with fail
    go_ret
    exact ⟨rfl, HB2.out⟩
  | true =>
    rw [hrt] at hrg
    go_wp2_with fail
    refine hrg.mono ?_
    rintro e w2 ⟨rfl, hb2⟩
    have HB2 := boxed (below_step HB1.out (Nat.le_refl _) hb2)
    have hws := words_any a0 w2 (by omega) hrt
    have HRW := boxed (fun W => refwords_any a0 W (by omega) hrt)
    have hwl := wds_len a0
    have hnl := nR_le a0
    clear hb2 hrg t1 t2 hrt
    go_wp2_with fail
    refine hws.mono ?_
    rintro e w3 ⟨v3, rfl, ho3, hb3⟩
    have HB3 := boxed (below_step HB2.out (Nat.le_refl _) hb3)
    have HO3 := boxed ho3
    have hrw := HRW.out w3
    clear hb3 ho3 hws
    obtain ⟨ao3, cap3, rfl⟩ := own_shape HO3.out
    go_wp2_with fail
    refine hrw.mono ?_
    rintro e w4 ⟨v4, rfl, ho4, hb4⟩
    have HB4 := boxed (below_step HB3.out (Nat.le_refl _) hb4)
    have HO4 := boxed (owns_below HO3.out hb4)
    have HP4 := boxed ho4
    clear hb4 ho4 hrw HO3 HRW
    obtain ⟨ao4, cap4, rfl⟩ := own_shape HP4.out
    obtain ⟨L, hL⟩ : ∃ L, Wds a0 = L := ⟨_, rfl⟩
    rw [hL] at HO4 HP4 hwl ⊢
    obtain ⟨n, hn⟩ : ∃ n, L.length = n := ⟨_, rfl⟩
    have HN := boxed hn
    rw [hn] at HO4 HP4 hwl ⊢
    clear hn hL
    have hne : ((n : Int) != (n : Int)) = false := by simp
    go_wp2_with fail
    go_loopw [5] (fun vi wr => ∃ i q : Nat, i ≤ n ∧ vi = .int .i64 (i : Int) ∧ wr = w4.drewN q) (fun vi _ => n - (intOf vi).toNat)
    case atStart => exact ⟨0, 0, Nat.zero_le _, rfl, rfl⟩
    case round =>
      obtain ⟨i, q, hi, rfl, rfl⟩ := hrel
      by_cases hlt : i < n
      · obtain ⟨g, cp, e1, -⟩ := own_cell2 HO4.out (by omega)
        obtain ⟨g', cp', e2, -⟩ := own_cell2 HP4.out (by omega)
        injection e1 with e1 _ e3
        injection e2 with e2 _ e4
        subst e1; subst e2; subst e3; subst e4
        have hil : (i : Int) < (n : Int) := by omega
        obtain ⟨p1, p2⟩ := pvals_get L i (by rw [HN.out]; exact hlt)
        have c1 := HO4.out.cellAt (i * 2) (by omega)
        have c2 := HO4.out.cellAt (i * 2 + 1) (by omega)
        have d1 := HP4.out.cellAt (i * 2) (by omega)
        have d2 := HP4.out.cellAt (i * 2 + 1) (by omega)
        rw [p1] at c1 d1
        rw [p2] at c2 d2
        clear p1 p2
        generalize (L.getD i (0, 0)).1 = x at *
        generalize (L.getD i (0, 0)).2 = y at *
        have hgd := guardPr
        have hnq := fun W => neqPair (x : Int) (y : Int) W
        go_wp2_with fail
        go_quiet (fail)
        clear c1 c2 d1 d2 hgd hnq
        go_wp2_with fail
        go_roundw
        case rel => exact ⟨i + 1, _, by omega, by go_num, rfl⟩
        case measure => simp [intOf]; omega
      · have e : n = i := by omega
        subst e
        go_wp2_with fail
        go_ret
        exact ⟨rfl, HB4.out.trans (bel_drewN _ _ _)⟩

set_option maxRecDepth 100000 in
theorem lifted (os : Os) (started : os.Started) (H : Type) (enc : TypeId × Value → H) :
    ReturnsInHanded {} Try.checked os 5 .any (Rows.hyphenWordsSpec.pre6 enc Try.prog Try.f5 Rows.hyphenWordsRow.domain false) (Rows.hyphenWordsSpec.post enc Try.prog Try.f5 false true false false) := by
  refine returnsInHanded_of_change_sized (C := Try.checked) own started (by kernel_rfl) Try.func5
    (ChangeSpec.witness6 (enc := enc) (C := Try.checked) false ⟨#[], #[.string ByteArray.empty], []⟩ 8 (by kernel_rfl) (by kernel_rfl) (by kernel_rfl) (by kernel_rfl)) ?_
  intro W base args ds gs before hval0 hW hcnd hsz0 _
  have hval : ∀ (j : Nat) t v, Try.f5.params[j]? = some t → args[j]? = some v → Value.okWide Try.prog W .any base t v := hval0
  have hsz : (DataW.weightsEach Try.prog (Try.f5.params.toList ++ Rows.hyphenWordsSpec.plain.varTypes Try.prog) (ds ++ gs)).all (· ≤ reachBytes) = true := hsz0
  have hW' := hW
  obtain ⟨p, q, hA0, hV, rfl, hfz, hnd⟩ := hW
  have hA : DataW.TrodAll enc Try.prog W 0 (fun _ => true) true Try.f5.params.toList args.toList ds p := hA0
  rw [Try.params5] at hA hval hsz
  obtain ⟨v0, vs0, d0, ds0, p0, q0, hargs, rfl, rfl, h0, r0⟩ := trodAll_cons hA
  obtain ⟨rfl, rfl, rfl⟩ := trodAll_nil r0
  obtain rfl : args = #[v0] := by cases args; simp_all
  obtain ⟨rfl, rfl⟩ := trodVars_none hV
  obtain ⟨a0, rfl, rfl, rfl, w0⟩ := open_string Try.underlying9 (hval 0 9 v0 rfl rfl) h0
  clear hA0 hval0
  refine (walk W a0 w0).mono fun e W' ⟨he, hg⟩ => ?_
  subst he
  exact ⟨_, rfl, _, _, _, [], _, [], hW', trodAll_mk1 (shut_bool Try.underlying4 _), (trodAll_cons_mk (shut_string Try.underlying9 w0) trodAll_mk0), rfl, hg.frame _, fun h => by cases h⟩

theorem proved : Rows.HyphenWordsSaid :=
  OpenClaim.holds_of_wide 5 Try.f5 rfl rfl rfl rfl rfl rfl rfl ⟨rfl, rfl, rfl, rfl, rfl⟩ rfl rfl rfl rfl rfl (by kernel_rfl) Try.func5 (by kernel_rfl)
    (of_decide_eq_true (by kernel_rfl)) (by unfold Func.isWrapper; first | (rw [if_pos (by decide +kernel)]; kernel_rfl) | (rw [if_neg (by decide +kernel)]; exact ⟨rfl, rfl⟩))
    (fun os started H enc _ => lifted os started H enc)
#print axioms proved
end Go.Proofs.Ytflhefgmgdgffaa.hyphenWords
