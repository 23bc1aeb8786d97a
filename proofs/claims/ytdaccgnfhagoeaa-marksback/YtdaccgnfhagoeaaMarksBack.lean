/-
  THE STATEMENT MarksBack: what is inserted and deleted again leaves every mark where it was; no condition.
-/
import Derived.Test.YtdaccgnfhagoeaaRows
import Derived.WalkKit
import Derived.ProofKit
import Derived.OpenShut
import Derived.SizedLaws
import Derived.ShutString
import Derived.ChangeOld
import Derived.Below
import Derived.Test.YtdaccgnfhagoeaaMkw
import Derived.Test.YtdaccgnfhagoeaaMkx
namespace Go.Proofs.Ytdaccgnfhagoeaa.marksBack
open Go.ChangeShapes Go.WideShapes Go.ChangeAt Go.RowKit
open Go.ChangeMaps (open_string shut_string)
set_option linter.unusedVariables false
set_option linter.unusedSimpArgs false

theorem own : ownKnob Try.prog.godebug = none := by kernel_rfl
theorem laidOut : laidOutB Try.prog = true := by kernel_rfl

set_option maxRecDepth 100000 in
set_option maxHeartbeats 2000000 in
theorem walk (w : World) (a0 : Int) (w0 : (Lit.int .i64 a0).wf = true) (ao1 : Option Addr) (n1 cap1 : Nat) (O1 : Nat → Opr) (hO1 : OpsAt w.heap.size w ao1 n1 O1) (o2 : Opr) (ho2 : I64 o2.k ∧ I64 o2.a ∧ I64 o2.b) :
    Calls Try.prog 6 #[.int .i64 a0, .slice ao1 n1 cap1, o2.val] w fun e w' => e = .returned (.bool true) ∧ Below w.heap.size w w' := by
  obtain ⟨k2, A, D, t2⟩ := o2
  unfold Opr.val
  clear w0 ho2
  have l1 := laid1 w (.cells #[.int .i64 k2, .int .i64 A, .int .i64 D, .bool t2] 51)
  generalize hW : w.alloc (.cells #[.int .i64 k2, .int .i64 A, .int .i64 D, .bool t2] 51) = W at l1
  obtain ⟨l0, lb, lz⟩ := l1
  have HW := boxed hW
  have HB0 := boxed lb
  have HA := boxed (awake16_any W)
  have HL0 := boxed l0
  clear hW lb l0
  go_enter Try.func6, Try.ntmps6
  go_upto_region 1 with (fail)
  rw [HW.out]
  go_wp2_with fail
  refine HA.out.mono ?_
  rintro e wa ⟨rfl, hba⟩
  have HBa := boxed (below_step HB0.out (Nat.le_refl _) hba)
  have HLa := boxed ((hba.block w.heap.size (by omega)).trans HL0.out)
  have hltb := heap_lt HLa.out
  clear hba HA HB0 HL0
  have hsz0 := size16law_any a0 wa
  by_cases hc : 0 ≤ a0 ∧ a0 ≤ 65536
  rotate_left
  · rw [decide_eq_false hc] at hsz0
    have HSz := boxed hsz0
    clear hsz0
    go_wp2_with fail
    refine HSz.out.mono ?_
    rintro e wz ⟨rfl, hwz⟩
    subst wz
    go_wp2_with fail
    go_ret
    exact ⟨rfl, HBa.out⟩
  rw [decide_eq_true hc] at hsz0
  have HSz := boxed hsz0
  have hp := played16_any (c := cap1) ((hO1.below HBa.out (Nat.le_refl _)).mono HBa.out.size) hc.1 hc.2
  have hok := pls_ok a0 O1 hc.1 hc.2 (min n1 80)
  obtain ⟨s, hs⟩ : ∃ s, pls a0 O1 (min n1 80) = s := ⟨_, rfl⟩
  rw [hs] at hp hok
  have hok := hok.mono (show ((min n1 80 : Nat) : Int) ≤ 80 by omega)
  have HPl := boxed hp
  have HOK := boxed hok
  have hlen := hok.len
  clear hsz0 hp hs hok hO1 hc
  go_wp2_with fail
  refine HSz.out.mono ?_
  rintro e wz ⟨rfl, hwz⟩
  subst wz
  go_wp2_with fail
  refine HPl.out.mono ?_
  rintro e w1 ⟨⟨sb, v, x, rfl, hp1, hr1⟩, hb1⟩
  obtain ⟨a1, c1, rfl, hro⟩ := rbox hr1
  have l2 := laid1 w1 (.cells #[.int .i64 s.sz, .int .i64 s.nx, .slice a1 s.L.length c1] 31)
  have hz1 := hb1.size
  generalize hW2 : w1.alloc (.cells #[.int .i64 s.sz, .int .i64 s.nx, .slice a1 s.L.length c1] 31) = w2 at l2
  obtain ⟨lt8, lb2, lz2⟩ := l2
  have HP2 := boxed (hp1.below lb2)
  have HR2 := boxed (hr1.below lb2)
  have HB2 := boxed (below_step (below_step HBa.out (Nat.le_refl _) hb1) (Nat.le_refl _) lb2)
  have HW2 := boxed hW2
  have HT8 := boxed lt8
  have hL2 := (lb2.block w.heap.size (by omega)).trans ((hb1.block w.heap.size (by omega)).trans HLa.out)
  have hAl := all16_any HP2.out HOK.out
  have HAl := boxed hAl
  have HBw2 := boxed (HB2.out)
  clear hp1 hr1 hb1 hro hW2 lt8 lb2 HPl HSz hAl
  go_wp2_with fail
  rw [HW2.out]
  refine HAl.out.mono ?_
  rintro e w3 ⟨⟨g, rfl, hg3⟩, hb3⟩
  have HP3 := boxed (HP2.out.below hb3)
  have HR3 := boxed hg3
  have HB3 := boxed (below_step HB2.out (Nat.le_refl _) hb3)
  have hL3 := (hb3.block w.heap.size (heap_lt hL2)).trans hL2
  have hsb2 := HP2.out.lt
  have hz3 := hb3.size
  have hlo := HP2.out.lo
  have HOw := boxed (fun q (hq : Own sb v q) => show q < w2.heap.size from by
    rcases hq with e | e
    · omega
    · exact (HP2.out.own.lt q e).2)
  obtain ⟨x0, x1, x2, x3⟩ := cells4 hL3
  have HL3 := boxed hL3
  have HIn := boxed (insert16_any HP3.out (by omega) HOK.out A D)
  have HIv := boxed (back16 HOK.out A D)
  have hno := ins_no s A D
  clear hb3 hg3 hL2 hL3 HAl HR2 HT8 HP2
  by_cases hc2 : (s.ins A D).2 = 0
  rotate_left
  · have u1 : ((s.ins A D).2 != 0) = true := by simpa using hc2
    clear hc2 HIv hno
    generalize (s.ins A D).1 = s1 at *
    generalize (s.ins A D).2 = E at *
    have HFn : Box (∀ w', Chg (Own sb v) w3 w' → Below w.heap.size w w') := boxed (fun w' hch => HB3.out.trans (hch.below (by omega) (fun q hq => by have := HP3.out.lo2 q hq; omega)))
    go_wp2_with fail
    refine HIn.out.mono ?_
    rintro e w4 ⟨rfl, -, hc4⟩
    have HF := boxed (HFn.out _ hc4)
    clear hc4 HFn HIn
    go_wp2_with fail
    go_ret
    exact ⟨rfl, HF.out⟩
  obtain ⟨hb0, hb1, hbd⟩ := HIv.out hc2
  obtain ⟨hA0, hA1, hD0, hD1⟩ := hno hc2
  have HOK1 := boxed (HOK.out.ins A D)
  rw [hc2] at HIn
  obtain ⟨s1, hs1⟩ : ∃ s1, (s.ins A D).1 = s1 := ⟨_, rfl⟩
  rw [hs1] at HIn HOK1 hbd
  have HDl : Box (∀ w' , PS wa.heap.size w' sb v s1 → wa.heap.size ≤ w'.heap.size → Calls Try.prog 21 #[.pointer (some ⟨sb, 0, none⟩), .int .i64 A, .int .i64 (A + D)] w' fun e w'' => e = .returned (.int .i64 0) ∧ PS wa.heap.size w'' sb v s ∧ Chg (Own sb v) w' w'') := boxed (fun w' h hz => by
    have h2 := delete16_any h hz HOK1.out A (A + D)
    rw [hbd] at h2
    exact h2)
  have HAl : Box (∀ w', PS wa.heap.size w' sb v s → _) := boxed (fun w' h => all16_any h HOK.out)
  have hA2 : A + D ≤ 9223372036854775807 := by omega
  have hA3 : -9223372036854775808 ≤ A + D := by omega
  clear hc2 hs1 hb0 hb1 hbd HIv hno
  go_wp2_with fail
  refine HIn.out.mono ?_
  rintro e w4 ⟨rfl, hp4, hc4⟩
  have HP4 := boxed hp4
  have hbw4 : Below wa.heap.size w3 w4 := hc4.below (by omega) (fun q hq => HP3.out.lo2 q hq)
  have HB4 := boxed (HB3.out.trans (hbw4.mono (by omega)))
  have hz4 := hbw4.size
  have HR4 := boxed (chg_own HR3.out hc4 (fun q hq hO => by have := HOw.out q hO; have := owns_ge HR3.out q hq; omega))
  have HL4 := boxed ((hbw4.block w.heap.size (by omega)).trans HL3.out)
  obtain ⟨y0, y1, y2, y3⟩ := cells4 HL4.out
  clear hp4 hc4 hbw4 HIn x0 x1 x2 x3 HL3
  go_wp2_with fail
  refine (HDl.out _ HP4.out (by omega)).mono ?_
  rintro e w5 ⟨rfl, hp5, hc5⟩
  have HP5 := boxed hp5
  have hbw5 : Below wa.heap.size w4 w5 := hc5.below (by omega) (fun q hq => HP4.out.lo2 q hq)
  have HB5 := boxed (HB4.out.trans (hbw5.mono (by omega)))
  have HR5 := boxed (chg_own HR4.out hc5 (fun q hq hO => by have := HOw.out q hO; have := owns_ge HR4.out q hq; omega))
  have HAl5 := boxed (HAl.out _ HP5.out)
  clear hp5 hc5 hbw5 HDl HAl y0 y1 y2 y3 HL4
  go_wp2_with fail
  refine HAl5.out.mono ?_
  rintro e w6 ⟨⟨g2, rfl, hg6⟩, hb6⟩
  have hr6 := owns_below HR5.out hb6
  have HB6 := boxed (below_step HB5.out (Nat.le_refl _) hb6)
  have hml := srt_len s.L
  obtain ⟨M, hM⟩ : ∃ M, srt s.L = M := ⟨_, rfl⟩
  obtain ⟨n, hn⟩ : ∃ n, s.L.length = n := ⟨_, rfl⟩
  rw [hM, hn] at hr6 hg6 hml
  rw [hn] at hlen
  have HA6 := boxed hr6
  have HC6 := boxed hg6
  have HML := boxed hml
  clear hr6 hg6 hml hM hb6 HAl5 HR5 HR4 HR3
  go_wp2_with fail
  go_loopw [11] (fun va wr => ∃ (i : Nat), i ≤ n ∧ va = .int .i64 (i : Nat) ∧ Box (∃ q, wr = w6.drewN q)) (fun va _ => ((n : Int) - intOf va).toNat)
  case atStart => exact ⟨0, Nat.zero_le _, rfl, boxed ⟨0, rfl⟩⟩
  case round =>
    obtain ⟨i, h1, rfl, HQ⟩ := hrel
    obtain ⟨q, rfl⟩ := HQ.out
    by_cases hlt : i < n
    · have hiM : i < M.length := by rw [HML.out]; exact hlt
      obtain ⟨ga, ca, ea, hca, d0, d1, d2, -⟩ := own_mk HA6.out i hiM
      injection ea with ea1 _ ea3
      injection ea1 with ea1
      injection ea1 with ea1
      subst ea1; subst ea3
      obtain ⟨gb, cb, eb, hcb, f0, f1, f2, -⟩ := own_mk HC6.out i hiM
      injection eb with eb1 _ eb3
      injection eb1 with eb1
      injection eb1 with eb1
      subst eb1; subst eb3
      have hlt2 : (i : Int) < (n : Int) := by omega
      generalize (M[i]'hiM).id = I at *
      generalize (M[i]'hiM).pl = P at *
      generalize (M[i]'hiM).st = T at *
      go_wp2
      go_quiet (fail)
      go_wp2_with fail
      go_roundw
      case rel => exact ⟨i + 1, by omega, by go_num, boxed ⟨_, rfl⟩⟩
      case measure => simp [intOf]; omega
    · have e : i = n := by omega
      have HF : Box (Below w.heap.size w (w6.drewN q)) := boxed (HB6.out.trans (bel_drewN _ _ _))
      subst e
      go_wp2_with fail
      go_ret
      exact ⟨rfl, HF.out⟩

set_option maxRecDepth 100000 in
theorem lifted (os : Os) (started : os.Started) (H : Type) (enc : TypeId × Value → H) :
    ReturnsInHanded {} Try.checked os 6 .any (Rows.marksBackSpec.pre6 enc Try.prog Try.f6 Rows.marksBackRow.domain false) (Rows.marksBackSpec.post enc Try.prog Try.f6 false true false false) := by
  refine returnsInHanded_of_change_sized (C := Try.checked) own started (by kernel_rfl) Try.func6
    (ChangeSpec.witness6 (enc := enc) (C := Try.checked) false ⟨#[], #[.int .i64 0, .slice none 0 0, .agg #[.int .i64 0, .int .i64 0, .int .i64 0, .bool false]], []⟩ 8 (by kernel_rfl) (by kernel_rfl) (by kernel_rfl) (by kernel_rfl)) ?_
  intro W base args ds gs before hval0 hW hcnd hsz0 _
  have hval : ∀ (j : Nat) t v, Try.f6.params[j]? = some t → args[j]? = some v → Value.okWide Try.prog W .any base t v := hval0
  have hsz : (DataW.weightsEach Try.prog (Try.f6.params.toList ++ Rows.marksBackSpec.plain.varTypes Try.prog) (ds ++ gs)).all (· ≤ reachBytes) = true := hsz0
  have hW' := hW
  obtain ⟨p, q, hA0, hV, rfl, hfz, hnd⟩ := hW
  have hA : DataW.TrodAll enc Try.prog W 0 (fun _ => true) true Try.f6.params.toList args.toList ds p := hA0
  rw [Try.params6] at hA hval hsz
  obtain ⟨v0, vs0, d0, ds0, p0, q0, hargs, rfl, rfl, h0, r0⟩ := trodAll_cons hA
  obtain ⟨v1, vs1, d1, ds1, p1, q1, rfl, rfl, rfl, h1, r1⟩ := trodAll_cons r0
  obtain ⟨v2, vs2, d2, ds2, p2, q2, rfl, rfl, rfl, h2, r2⟩ := trodAll_cons r1
  obtain ⟨rfl, rfl, rfl⟩ := trodAll_nil r2
  obtain rfl : args = #[v0, v1, v2] := by cases args; simp_all
  obtain ⟨rfl, rfl⟩ := trodVars_none hV
  obtain ⟨a0, rfl, rfl, rfl, w0⟩ := open_int Try.underlying3 (hval 0 3 v0 rfl rfl) h0
  obtain ⟨ao1, n1, cap1, rfl⟩ := okWide_slice Try.underlying22 (hval 1 22 v1 rfl rfl)
  have k1 := h1
  have lt1 : ∀ x ∈ p1, x.block < W.heap.size := by obtain ⟨m, hm⟩ := k1; exact DataW.trod_lt m _ _ _ hm
  obtain ⟨O1, hO1⟩ : ∃ O, OpsAt W.heap.size W ao1 n1 O := by
    obtain ⟨fuel, hf⟩ := k1
    exact open_ops16 hf
  have k2 := h2
  have lt2 : ∀ x ∈ p2, x.block < W.heap.size := by obtain ⟨m, hm⟩ := k2; exact DataW.trod_lt m _ _ _ hm
  obtain ⟨o2, rfl, ho2⟩ : ∃ o : Opr, v2 = o.val ∧ I64 o.k ∧ I64 o.a ∧ I64 o.b := by
    obtain ⟨fuel, hf⟩ := k2
    exact op16_value hf
  clear hA0 hval0
  refine (walk W a0 w0 ao1 n1 cap1 O1 hO1 o2 ho2).mono fun e W' ⟨he, hg⟩ => ?_
  subst he
  exact ⟨_, rfl, _, _, _, [], _, [], hW', trodAll_mk1 (shut_bool Try.underlying4 _), (trodAll_cons_mk (shut_int Try.underlying3 w0) (trodAll_cons_mk (Below.trod laidOut (by kernel_rfl) (of_decide_eq_true (by kernel_rfl)) k1 hg lt1) (trodAll_cons_mk (Below.trod laidOut (by kernel_rfl) (of_decide_eq_true (by kernel_rfl)) k2 hg lt2) trodAll_mk0))), rfl, hg.frame _, fun h => by cases h⟩

theorem proved : Rows.MarksBackSaid :=
  OpenClaim.holds_of_wide 6 Try.f6 rfl rfl rfl rfl rfl rfl rfl ⟨rfl, rfl, rfl, rfl, rfl⟩ rfl rfl rfl rfl rfl (by kernel_rfl) Try.func6 (by kernel_rfl)
    (of_decide_eq_true (by kernel_rfl)) (by unfold Func.isWrapper; first | (rw [if_pos (by decide +kernel)]; kernel_rfl) | (rw [if_neg (by decide +kernel)]; exact ⟨rfl, rfl⟩))
    (fun os started H enc _ => lifted os started H enc)
#print axioms proved
end Go.Proofs.Ytdaccgnfhagoeaa.marksBack
