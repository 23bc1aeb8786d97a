/-
  THE STATEMENT MarksMany: a text has so many marks and no more; their numbers are given out once; no condition.
-/
import Derived.Test.YtdaccgnfhagoeaaRows
import Derived.WalkKit
import Derived.ProofKit
import Derived.OpenShut
import Derived.SizedLaws
import Derived.ShutString
import Derived.ChangeOld
import Derived.Below
import Derived.Test.YtdaccgnfhagoeaaMkt
import Derived.Test.YtdaccgnfhagoeaaMki
import Derived.Test.YtdaccgnfhagoeaaMkv
namespace Go.Proofs.Ytdaccgnfhagoeaa.marksMany
open Go.ChangeShapes Go.WideShapes Go.ChangeAt Go.RowKit
open Go.ChangeMaps (open_string shut_string)
set_option linter.unusedVariables false
set_option linter.unusedSimpArgs false

theorem own : ownKnob Try.prog.godebug = none := by kernel_rfl
theorem laidOut : laidOutB Try.prog = true := by kernel_rfl

set_option maxRecDepth 100000 in
set_option maxHeartbeats 2000000 in
theorem walk (w : World) (a0 : Int) (w0 : (Lit.int .i64 a0).wf = true) (a1 : Int) (w1 : (Lit.int .i64 a1).wf = true) :
    Calls Try.prog 7 #[.int .i64 a0, .int .i64 a1] w fun e w' => e = .returned (.bool true) ∧ Below w.heap.size w w' := by
  clear w0 w1
  have HA := boxed (awake16_any w)
  go_enter Try.func7, Try.ntmps7
  go_wp2_with fail
  refine HA.out.mono ?_
  rintro e wa ⟨rfl, hba⟩
  have HBa := boxed hba
  clear hba HA
  by_cases c0 : a0 < 0
  · have t1 : decide (a0 < 0) = true := decide_eq_true c0
    clear c0
    go_wp2_with fail
    go_ret
    exact ⟨rfl, HBa.out⟩
  have t1 : decide (a0 < 0) = false := decide_eq_false c0
  by_cases c1 : 1100 < a0
  · have t2 : decide (1100 < a0) = true := decide_eq_true c1
    clear c0 c1
    go_wp2_with fail
    go_ret
    exact ⟨rfl, HBa.out⟩
  have t2 : decide (1100 < a0) = false := decide_eq_false c1
  obtain ⟨n, rfl⟩ : ∃ n : Nat, a0 = (n : Int) := ⟨a0.toNat, by omega⟩
  have hn : n ≤ 1100 := by omega
  have HN := boxed (new16_ok 9 wa (by omega))
  clear c0 c1
  go_wp2_with fail
  refine HN.out.mono ?_
  rintro e wb ⟨rfl, hnn⟩
  obtain ⟨hpb, hbb⟩ := hnn _ (Nat.le_refl _)
  have HPb := boxed hpb
  have HBb := boxed (below_step HBa.out (Nat.le_refl _) hbb)
  have hzb := hbb.size
  clear hnn hpb hbb HN
  go_wp2_with fail
  go_loopw [7] (fun va wr => ∃ (i : Nat) (v : Value), i ≤ n ∧ va = .int .i64 (i : Nat) ∧ Box (PS wa.heap.size wr wa.heap.size v (mn i)) ∧ Box (Below w.heap.size w wr)) (fun va _ => ((n : Int) - intOf va).toNat)
  case atStart => exact ⟨0, _, Nat.zero_le _, rfl, HPb, HBb⟩
  case round =>
    obtain ⟨i, v, h1, rfl, HP, HBr⟩ := hrel
    have hzr := HP.out.lt
    by_cases hlt : i < n
    · have hlt2 : (i : Int) < (n : Int) := by omega
      have HPut := put16_any HP.out (by omega) (mn_ok i) (by omega) ((i % 10 : Nat) : Int) (decide (i % 2 = 0))
      have e10 : ((i % 10 : Nat) : Int) = (i : Int) % 10 := by omega
      have e2 : decide (i % 2 = 0) = ((i : Int) % 2 == 0) := by
        by_cases h : i % 2 = 0
        · rw [decide_eq_true h]; symm; rw [beq_iff_eq]; omega
        · rw [decide_eq_false h]; symm; rw [beq_eq_false_iff_ne]; omega
      by_cases h24 : i < 1024
      · rw [mn_put i h24, e10, e2] at HPut
        have HPut := boxed HPut
        have h24i : (i : Int) < 1024 := by omega
        clear e10 e2
        go_wp2_with fail
        refine HPut.out.mono ?_
        rintro e wc ⟨rfl, ⟨v2, hp⟩, hc⟩
        have HP2 := boxed hp
        have HB2 := boxed (HBr.out.trans (HP.out.chg_below (by omega) hc |>.mono (by have := HBa.out.size; omega)))
        clear hp hc HPut
        go_wp2_with fail
        go_roundw
        case rel => exact ⟨i + 1, v2, by omega, by go_num, HP2, HB2⟩
        case measure => simp [intOf]; omega
      · rw [mn_full i (by omega), e10, e2] at HPut
        have HPut := boxed HPut
        have h24i : ¬ (i : Int) < 1024 := by omega
        clear e10 e2
        go_wp2_with fail
        refine HPut.out.mono ?_
        rintro e wc ⟨rfl, ⟨v2, hp⟩, hc⟩
        have HP2 := boxed hp
        have HB2 := boxed (HBr.out.trans (HP.out.chg_below (by omega) hc |>.mono (by have := HBa.out.size; omega)))
        clear hp hc HPut
        go_wp2_with fail
        go_roundw
        case rel => exact ⟨i + 1, v2, by omega, by go_num, HP2, HB2⟩
        case measure => simp [intOf]; omega
    · have e : i = n := by omega
      subst e
      by_cases hle : i ≤ 1024
      · have hK : min i 1024 = i := by omega
        have hle2 : (i : Int) ≤ 1024 := by omega
        have HCt := count16_any HP.out
        have HDr := drop16_any HP.out (by omega) (mn_ok i) a1
        rw [mn_len i, hK] at HCt
        have HCt := boxed HCt
        by_cases hd : 1 ≤ a1 ∧ a1 ≤ (i : Int)
        · obtain ⟨q1, q2, q3, q4⟩ := mn_swap i a1 hd.1 (by rw [hK]; exact hd.2)
          rw [hK] at q2 q3
          rw [q1] at HDr
          have HOkd := boxed ((mn_ok i).drop a1)
          have HOkp := boxed (HOkd.out.put 0 true)
          obtain ⟨s1, hs1⟩ : ∃ s1, ((mn i).drop a1).1 = s1 := ⟨_, rfl⟩
          rw [hs1] at HDr HOkd HOkp q2 q3 q4
          have HPt : Box (∀ w' v', PS wa.heap.size w' wa.heap.size v' s1 → wa.heap.size ≤ w'.heap.size → Calls Try.prog 22 #[.pointer (some ⟨wa.heap.size, 0, none⟩), .int .i64 0, .bool true] w' fun e w'' => e = .returned (.tuple #[.int .i64 ((i : Int) + 1), .int .i64 0]) ∧ (∃ v2, PS wa.heap.size w'' wa.heap.size v2 (s1.put 0 true).1) ∧ Chg (Own wa.heap.size v') w' w'') := boxed (fun w' v' h hz => by
            have h2 := put16_any h hz HOkd.out (by omega) 0 true
            rw [q2] at h2
            exact h2)
          obtain ⟨s2, hs2⟩ : ∃ s2, (s1.put 0 true).1 = s2 := ⟨_, rfl⟩
          rw [hs2] at HPt HOkp q3 q4
          have HC2 : Box (∀ w' v', PS wa.heap.size w' wa.heap.size v' s2 → Calls Try.prog 13 #[.pointer (some ⟨wa.heap.size, 0, none⟩)] w' fun e w'' => e = .returned (.int .i64 (i : Int)) ∧ w'' = w') := boxed (fun w' v' h => by
            have h2 := count16_any h
            rw [q3] at h2
            exact h2)
          have HD2 : Box (∀ w' v', PS wa.heap.size w' wa.heap.size v' s2 → wa.heap.size ≤ w'.heap.size → Calls Try.prog 23 #[.pointer (some ⟨wa.heap.size, 0, none⟩), .int .i64 a1] w' fun e w'' => e = .returned (.int .i64 160) ∧ Chg (Own wa.heap.size v') w' w'') := boxed (fun w' v' h hz => by
            have h2 := drop16_any h hz HOkp.out a1
            rw [q4] at h2
            exact h2.mono (fun e w'' hh => ⟨hh.1, hh.2.2⟩))
          have HDr := boxed HDr
          clear q1 q2 q3 q4 hs1 hs2 hd hK hlt
          go_wp2_with fail
          refine HCt.out.mono ?_
          rintro e wc ⟨rfl, hwc⟩
          subst wc
          go_wp2_with fail
          refine HDr.out.mono ?_
          rintro e wd ⟨rfl, ⟨v2, hp⟩, hc⟩
          have HP2 := boxed hp
          have HB2 := boxed (HBr.out.trans (HP.out.chg_below (by omega) hc |>.mono (by have := HBa.out.size; omega)))
          have hz2 := HP2.out.lt
          clear hp hc HDr HCt
          go_wp2_with fail
          refine (HPt.out _ _ HP2.out (by omega)).mono ?_
          rintro e we ⟨rfl, ⟨v3, hp⟩, hc⟩
          have HP3 := boxed hp
          have HB3 := boxed (HB2.out.trans (HP2.out.chg_below (by omega) hc |>.mono (by have := HBa.out.size; omega)))
          have hz3 := HP3.out.lt
          clear hp hc HPt
          go_wp2_with fail
          refine (HC2.out _ _ HP3.out).mono ?_
          rintro e wc ⟨rfl, hwc⟩
          subst wc
          go_wp2_with fail
          refine (HD2.out _ _ HP3.out (by omega)).mono ?_
          rintro e wf ⟨rfl, hc⟩
          have HB4 := boxed (HB3.out.trans (HP3.out.chg_below (by omega) hc |>.mono (by have := HBa.out.size; omega)))
          clear hc HD2 HC2
          go_wp2_with fail
          go_ret
          exact ⟨rfl, HB4.out⟩
        · have q1 := mn_no i a1 (by rw [hK]; exact hd)
          rw [q1] at HDr
          have HDr := boxed HDr
          by_cases hd1 : a1 < 1
          · have u1 : decide (a1 < 1) = true := decide_eq_true hd1
            clear q1 hd hK hlt hd1
            go_wp2_with fail
            refine HCt.out.mono ?_
            rintro e wc ⟨rfl, hwc⟩
            subst wc
            go_wp2_with fail
            refine HDr.out.mono ?_
            rintro e wd ⟨rfl, -, hc⟩
            have HB2 := boxed (HBr.out.trans (HP.out.chg_below (by omega) hc |>.mono (by have := HBa.out.size; omega)))
            clear hc HDr HCt
            go_wp2_with fail
            go_ret
            exact ⟨rfl, HB2.out⟩
          · have u1 : decide (a1 < 1) = false := decide_eq_false hd1
            have u2 : decide ((i : Int) < a1) = true := decide_eq_true (by omega)
            clear q1 hd hK hlt hd1
            go_wp2_with fail
            refine HCt.out.mono ?_
            rintro e wc ⟨rfl, hwc⟩
            subst wc
            go_wp2_with fail
            refine HDr.out.mono ?_
            rintro e wd ⟨rfl, -, hc⟩
            have HB2 := boxed (HBr.out.trans (HP.out.chg_below (by omega) hc |>.mono (by have := HBa.out.size; omega)))
            clear hc HDr HCt
            go_wp2_with fail
            go_ret
            exact ⟨rfl, HB2.out⟩
      · have hK : min i 1024 = 1024 := by omega
        have hle2 : ¬ (i : Int) ≤ 1024 := by omega
        have HCt := count16_any HP.out
        have HDr := drop16_any HP.out (by omega) (mn_ok i) a1
        rw [mn_len i, hK] at HCt
        have HCt := boxed HCt
        by_cases hd : 1 ≤ a1 ∧ a1 ≤ 1024
        · obtain ⟨q1, q2, q3, q4⟩ := mn_swap i a1 hd.1 (by rw [hK]; exact hd.2)
          rw [hK] at q2 q3
          rw [q1] at HDr
          have HOkd := boxed ((mn_ok i).drop a1)
          have HOkp := boxed (HOkd.out.put 0 true)
          obtain ⟨s1, hs1⟩ : ∃ s1, ((mn i).drop a1).1 = s1 := ⟨_, rfl⟩
          rw [hs1] at HDr HOkd HOkp q2 q3 q4
          have HPt : Box (∀ w' v', PS wa.heap.size w' wa.heap.size v' s1 → wa.heap.size ≤ w'.heap.size → Calls Try.prog 22 #[.pointer (some ⟨wa.heap.size, 0, none⟩), .int .i64 0, .bool true] w' fun e w'' => e = .returned (.tuple #[.int .i64 (1024 + 1), .int .i64 0]) ∧ (∃ v2, PS wa.heap.size w'' wa.heap.size v2 (s1.put 0 true).1) ∧ Chg (Own wa.heap.size v') w' w'') := boxed (fun w' v' h hz => by
            have h2 := put16_any h hz HOkd.out (by omega) 0 true
            rw [q2] at h2
            exact h2)
          obtain ⟨s2, hs2⟩ : ∃ s2, (s1.put 0 true).1 = s2 := ⟨_, rfl⟩
          rw [hs2] at HPt HOkp q3 q4
          have HC2 : Box (∀ w' v', PS wa.heap.size w' wa.heap.size v' s2 → Calls Try.prog 13 #[.pointer (some ⟨wa.heap.size, 0, none⟩)] w' fun e w'' => e = .returned (.int .i64 1024) ∧ w'' = w') := boxed (fun w' v' h => by
            have h2 := count16_any h
            rw [q3] at h2
            exact h2)
          have HD2 : Box (∀ w' v', PS wa.heap.size w' wa.heap.size v' s2 → wa.heap.size ≤ w'.heap.size → Calls Try.prog 23 #[.pointer (some ⟨wa.heap.size, 0, none⟩), .int .i64 a1] w' fun e w'' => e = .returned (.int .i64 160) ∧ Chg (Own wa.heap.size v') w' w'') := boxed (fun w' v' h hz => by
            have h2 := drop16_any h hz HOkp.out a1
            rw [q4] at h2
            exact h2.mono (fun e w'' hh => ⟨hh.1, hh.2.2⟩))
          have HDr := boxed HDr
          clear q1 q2 q3 q4 hs1 hs2 hd hK hlt
          go_wp2_with fail
          refine HCt.out.mono ?_
          rintro e wc ⟨rfl, hwc⟩
          subst wc
          go_wp2_with fail
          refine HDr.out.mono ?_
          rintro e wd ⟨rfl, ⟨v2, hp⟩, hc⟩
          have HP2 := boxed hp
          have HB2 := boxed (HBr.out.trans (HP.out.chg_below (by omega) hc |>.mono (by have := HBa.out.size; omega)))
          have hz2 := HP2.out.lt
          clear hp hc HDr HCt
          go_wp2_with fail
          refine (HPt.out _ _ HP2.out (by omega)).mono ?_
          rintro e we ⟨rfl, ⟨v3, hp⟩, hc⟩
          have HP3 := boxed hp
          have HB3 := boxed (HB2.out.trans (HP2.out.chg_below (by omega) hc |>.mono (by have := HBa.out.size; omega)))
          have hz3 := HP3.out.lt
          clear hp hc HPt
          go_wp2_with fail
          refine (HC2.out _ _ HP3.out).mono ?_
          rintro e wc ⟨rfl, hwc⟩
          subst wc
          go_wp2_with fail
          refine (HD2.out _ _ HP3.out (by omega)).mono ?_
          rintro e wf ⟨rfl, hc⟩
          have HB4 := boxed (HB3.out.trans (HP3.out.chg_below (by omega) hc |>.mono (by have := HBa.out.size; omega)))
          clear hc HD2 HC2
          go_wp2_with fail
          go_ret
          exact ⟨rfl, HB4.out⟩
        · have q1 := mn_no i a1 (by rw [hK]; exact hd)
          rw [q1] at HDr
          have HDr := boxed HDr
          by_cases hd1 : a1 < 1
          · have u1 : decide (a1 < 1) = true := decide_eq_true hd1
            clear q1 hd hK hlt hd1
            go_wp2_with fail
            refine HCt.out.mono ?_
            rintro e wc ⟨rfl, hwc⟩
            subst wc
            go_wp2_with fail
            refine HDr.out.mono ?_
            rintro e wd ⟨rfl, -, hc⟩
            have HB2 := boxed (HBr.out.trans (HP.out.chg_below (by omega) hc |>.mono (by have := HBa.out.size; omega)))
            clear hc HDr HCt
            go_wp2_with fail
            go_ret
            exact ⟨rfl, HB2.out⟩
          · have u1 : decide (a1 < 1) = false := decide_eq_false hd1
            have u2 : decide (1024 < a1) = true := decide_eq_true (by omega)
            clear q1 hd hK hlt hd1
            go_wp2_with fail
            refine HCt.out.mono ?_
            rintro e wc ⟨rfl, hwc⟩
            subst wc
            go_wp2_with fail
            refine HDr.out.mono ?_
            rintro e wd ⟨rfl, -, hc⟩
            have HB2 := boxed (HBr.out.trans (HP.out.chg_below (by omega) hc |>.mono (by have := HBa.out.size; omega)))
            clear hc HDr HCt
            go_wp2_with fail
            go_ret
            exact ⟨rfl, HB2.out⟩

set_option maxRecDepth 100000 in
theorem lifted (os : Os) (started : os.Started) (H : Type) (enc : TypeId × Value → H) :
    ReturnsInHanded {} Try.checked os 7 .any (Rows.marksManySpec.pre6 enc Try.prog Try.f7 Rows.marksManyRow.domain false) (Rows.marksManySpec.post enc Try.prog Try.f7 false true false false) := by
  refine returnsInHanded_of_change_sized (C := Try.checked) own started (by kernel_rfl) Try.func7
    (ChangeSpec.witness6 (enc := enc) (C := Try.checked) false ⟨#[], #[.int .i64 0, .int .i64 0], []⟩ 8 (by kernel_rfl) (by kernel_rfl) (by kernel_rfl) (by kernel_rfl)) ?_
  intro W base args ds gs before hval0 hW hcnd hsz0 _
  have hval : ∀ (j : Nat) t v, Try.f7.params[j]? = some t → args[j]? = some v → Value.okWide Try.prog W .any base t v := hval0
  have hsz : (DataW.weightsEach Try.prog (Try.f7.params.toList ++ Rows.marksManySpec.plain.varTypes Try.prog) (ds ++ gs)).all (· ≤ reachBytes) = true := hsz0
  have hW' := hW
  obtain ⟨p, q, hA0, hV, rfl, hfz, hnd⟩ := hW
  have hA : DataW.TrodAll enc Try.prog W 0 (fun _ => true) true Try.f7.params.toList args.toList ds p := hA0
  rw [Try.params7] at hA hval hsz
  obtain ⟨v0, vs0, d0, ds0, p0, q0, hargs, rfl, rfl, h0, r0⟩ := trodAll_cons hA
  obtain ⟨v1, vs1, d1, ds1, p1, q1, rfl, rfl, rfl, h1, r1⟩ := trodAll_cons r0
  obtain ⟨rfl, rfl, rfl⟩ := trodAll_nil r1
  obtain rfl : args = #[v0, v1] := by cases args; simp_all
  obtain ⟨rfl, rfl⟩ := trodVars_none hV
  obtain ⟨a0, rfl, rfl, rfl, w0⟩ := open_int Try.underlying3 (hval 0 3 v0 rfl rfl) h0
  obtain ⟨a1, rfl, rfl, rfl, w1⟩ := open_int Try.underlying3 (hval 1 3 v1 rfl rfl) h1
  clear hA0 hval0
  refine (walk W a0 w0 a1 w1).mono fun e W' ⟨he, hg⟩ => ?_
  subst he
  exact ⟨_, rfl, _, _, _, [], _, [], hW', trodAll_mk1 (shut_bool Try.underlying4 _), (trodAll_cons_mk (shut_int Try.underlying3 w0) (trodAll_cons_mk (shut_int Try.underlying3 w1) trodAll_mk0)), rfl, hg.frame _, fun h => by cases h⟩

theorem proved : Rows.MarksManySaid :=
  OpenClaim.holds_of_wide 7 Try.f7 rfl rfl rfl rfl rfl rfl rfl ⟨rfl, rfl, rfl, rfl, rfl⟩ rfl rfl rfl rfl rfl (by kernel_rfl) Try.func7 (by kernel_rfl)
    (of_decide_eq_true (by kernel_rfl)) (by unfold Func.isWrapper; first | (rw [if_pos (by decide +kernel)]; kernel_rfl) | (rw [if_neg (by decide +kernel)]; exact ⟨rfl, rfl⟩))
    (fun os started H enc _ => lifted os started H enc)
#print axioms proved
end Go.Proofs.Ytdaccgnfhagoeaa.marksMany
