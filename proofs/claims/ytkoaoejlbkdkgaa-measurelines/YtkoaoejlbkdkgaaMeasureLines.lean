/-
  For any items and any two places the statement MeasureLines of the program returns true: where the items are a paragraph's, and few, Start, Line and Bounds answer what the document's answer has; what was handed in is unchanged. No condition besides the statement's own.
-/
import Derived.Test.YtkoaoejlbkdkgaaRows
import Derived.WalkKit
import Derived.ProofKit
import Derived.OpenShut
import Derived.SizedLaws
import Derived.ShutString
import Derived.ChangeOld
import Derived.Below
import Derived.Test.YtkoaoejlbkdkgaaEy
import Derived.Test.YtkoaoejlbkdkgaaEl
import Derived.Lib.QuietBelow
import Derived.BigQuiet
namespace Go.Proofs.Ytkoaoejlbkdkgaa.measureLines
open Go.ChangeShapes Go.WideShapes Go.ChangeAt Go.RowKit
open Go.ChangeMaps (open_string shut_string)
set_option linter.unusedVariables false
set_option linter.unusedSimpArgs false

theorem own : ownKnob Try.prog.godebug = none := by kernel_rfl
theorem laidOut : laidOutB Try.prog = true := by kernel_rfl

set_option maxRecDepth 100000 in
set_option maxHeartbeats 8000000 in
theorem walk (w : World) (ao0 : Option Addr) (n0 cap0 : Nat) (I0 : Nat → Itm) (hn0 : n0 ≤ maxLen) (hI0 : ItsAt (fun _ => True) w ao0 n0 I0) (a1 : Int) (w1 : (Lit.int .i64 a1).wf = true) (a2 : Int) (w2 : (Lit.int .i64 a2).wf = true) :
    Calls Try.prog 4 #[.slice ao0 n0 cap0, .int .i64 a1, .int .i64 a2] w fun e w' => e = .returned (.bool true) ∧ Below w.heap.size w w' := by
  have hA := fun w => awake_any w
  have HI := boxed hI0
  unfold maxLen at hn0
  by_cases hg : n0 ≤ 400 ∧ rgt I0 n0 = true
  rotate_left
  · have hP := boxed (fun W (hb : Below w.heap.size w W) => para_none (fun _ => True) ao0 n0 cap0 I0 W (HI.out.below hb) (by unfold maxLen; omega) (by
      by_cases q : 400 < n0
      · exact .inl q
      · right
        cases e : rgt I0 n0 with
        | false => rfl
        | true => exact absurd ⟨by omega, e⟩ hg))
    clear hI0 hg
    go_enter Try.func4, Try.ntmps4
    go_wp2_with fail
    refine (hA _).mono ?_
    rintro e w1 ⟨rfl, hb1⟩
    have HB1 := boxed hb1
    clear hb1
    go_wp2_with fail
    refine (hP.out _ HB1.out).mono ?_
    rintro e w2 ⟨rfl, hb2⟩
    have HB2 := boxed (below_step HB1.out (Nat.le_refl _) hb2)
    clear hb2
    go_wp2_with fail
    go_ret
    exact ⟨rfl, HB2.out⟩
  have hP := boxed (fun W (hb : Below w.heap.size w W) => para_some (fun _ => True) ao0 n0 cap0 I0 W (HI.out.below hb) hg.1 hg.2)
  obtain ⟨h0, h1, -, hok⟩ := (rgt_iff I0 n0).1 hg.2
  have h400 := hg.1
  clear hI0 hg
  have hLn := boxed (fun S W pb (h : ParaAt S W pb n0 I0) => line_any h h1 hok a1 a2)
  have hBo := boxed (fun S W pb (h : ParaAt S W pb n0 I0) => bounds_any h h1 hok a1 a2)
  have hSt := boxed (fun S W pb (h : ParaAt S W pb n0 I0) => start_any h h1 a1)
  have hWh := boxed (fun W (hb : Below w.heap.size w W) => whole_any (fun _ => True) ao0 n0 cap0 I0 W (HI.out.below hb) h1 hok a1 a2)
  have hRl := boxed (fun W (hb : Below w.heap.size w W) => refline_any (fun _ => True) ao0 n0 cap0 I0 W (HI.out.below hb) h1 hok a1 a2)
  have hRs := boxed (fun W (hb : Below w.heap.size w W) => refstart_any (fun _ => True) ao0 n0 cap0 I0 W (HI.out.below hb) h1 a1)
  have hle := upt_le I0 n0 h1 hok a1 a2
  have hws := (wst_le I0 n0 hok n0 (Nat.le_refl _)).1
  unfold Sm.val at hLn hWh hRl
  go_enter Try.func4, Try.ntmps4
  go_wp2_with fail
  refine (hA _).mono ?_
  rintro e w1 ⟨rfl, hb1⟩
  have HB1 := boxed hb1
  clear hb1
  go_wp2_with fail
  refine (hP.out _ HB1.out).mono ?_
  rintro e w2 ⟨pb, rfl, hPa, hb2⟩
  have HP2 := boxed hPa
  have HB2 := boxed (below_step HB1.out (Nat.le_refl _) hb2)
  clear hb2 hPa hA hP
  go_wp2_with fail
  refine (hLn.out _ _ _ HP2.out).mono ?_
  rintro e w3 ⟨rfl, hb3⟩
  have HP3 := boxed (HP2.out.below hb3)
  have HB3 := boxed (below_step HB2.out (Nat.le_refl _) hb3)
  clear hb3 HP2
  go_wp2_with fail
  refine (hWh.out _ HB3.out).mono ?_
  rintro e w4 ⟨rfl, hb4⟩
  have HP4 := boxed (HP3.out.below hb4)
  have HB4 := boxed (below_step HB3.out (Nat.le_refl _) hb4)
  clear hb4 HP3
  obtain ⟨L, hL⟩ : ∃ L, lin I0 n0 a1 a2 = L := ⟨_, rfl⟩
  rw [hL]
  obtain ⟨K1, K2, K3, K4⟩ := heap2 w4 (.cells #[.int .i64 L.w, .int .i64 L.st, .int .i64 L.sh, .int .i64 L.f] 40) (.cells #[.int .i64 L.w, .int .i64 L.st, .int .i64 L.sh, .int .i64 L.f] 42)
  obtain ⟨wX, hwX⟩ : ∃ wX, (w4.alloc (.cells #[.int .i64 L.w, .int .i64 L.st, .int .i64 L.sh, .int .i64 L.f] 40)).alloc (.cells #[.int .i64 L.w, .int .i64 L.st, .int .i64 L.sh, .int .i64 L.f] 42) = wX := ⟨_, rfl⟩
  rw [hwX] at K1 K2 K3 K4
  have HPX := boxed (HP4.out.below K3)
  have HBX := boxed (below_step HB4.out (Nat.le_refl _) K3)
  replace K1 := boxed K1
  replace K2 := boxed K2
  replace hwX := boxed hwX
  clear K3 hLn hWh HP4 HB3
  go_wp2_with fail
  rw [hwX.out]
  refine (hRl.out _ HBX.out).mono ?_
  rintro e w5 ⟨rfl, hb5⟩
  have E1 := boxed ((hb5.block w4.heap.size (by omega)).trans K1.out)
  have E2 := boxed ((hb5.block (w4.heap.size + 1) (by omega)).trans K2.out)
  have HP5 := boxed (HPX.out.below hb5)
  have HB5 := boxed (below_step HBX.out (Nat.le_refl _) hb5)
  have hz5 : w4.heap.size + 2 ≤ w5.heap.size := by have := hb5.size; omega
  clear hb5 hRl HPX HBX K1 K2 hwX K4 hL
  generalize upt I0 n0 a1 a2 = U at *
  obtain ⟨wY, hwY⟩ : ∃ wY, w5.alloc (.cells #[.int .i64 U.w, .int .i64 U.st, .int .i64 U.sh, .int .i64 U.f] 42) = wY := ⟨_, rfl⟩
  have K5 : wY.heap[w5.heap.size]? = some (.cells #[.int .i64 U.w, .int .i64 U.st, .int .i64 U.sh, .int .i64 U.f] 42 (0, 0)) := by rw [← hwY]; exact heap_alloc_new w5 _
  have hbY : Below w5.heap.size w5 wY := by rw [← hwY]; exact (Below.refl _ _).alloc (Nat.le_refl _) _
  have hzY : wY.heap.size = w5.heap.size + 1 := by rw [← hwY]; simp
  have HPY := boxed (HP5.out.below hbY)
  have HBY := boxed (below_step HB5.out (Nat.le_refl _) hbY)
  have EY1 := boxed ((hbY.block w4.heap.size (by omega)).trans E1.out)
  have EY2 := boxed ((hbY.block (w4.heap.size + 1) (by omega)).trans E2.out)
  replace K5 := boxed K5
  replace hwY := boxed hwY
  clear hbY HP5 HB5 E1 E2
  go_wp2_with fail
  rw [hwY.out]
  go_loopw [12, 13] (fun sv iv wr => ∃ k : Nat, k ≤ n0 ∧ sv = .int .i64 (wst I0 k) ∧ iv = .int .i64 (k : Int) ∧ Box (Below wY.heap.size wY wr)) (fun _ iv _ => n0 - (intOf iv).toNat)
  case atStart => exact ⟨0, Nat.zero_le _, rfl, rfl, boxed (Below.refl _ _)⟩
  case round =>
    obtain ⟨k, hk, rfl, rfl, HB⟩ := hrel
    by_cases hlt : k < n0
    · obtain ⟨lb, off, e, -, c0, c1, -⟩ := (HI.out.below (below_step HBY.out (Nat.le_refl _) HB.out)) k hlt
      subst e
      have t3 : decide ((k : Int) < (n0 : Int)) = true := decide_eq_true (by omega)
      have t3' : decide (k < n0) = true := decide_eq_true hlt
      have t3'' : (k : Int) < (n0 : Int) := by omega
      have HW : Box (wst I0 (k + 1) = max (wst I0 k) (addd (I0 k))) := boxed rfl
      have hw0 := (wst_le I0 n0 hok k (by omega)).1
      generalize wst I0 k = A at *
      cases hk3 : ((I0 k).k == 3)
      · have HD : Box (wst I0 (k + 1) = A) := boxed (by
          rw [HW.out]; unfold addd; rw [if_neg (by simpa using hk3)]; omega)
        generalize I0 k = x at *
        go_wp2_with fail
        go_roundw
        case rel => exact ⟨k + 1, by omega, by rw [HD.out], by go_num, HB⟩
        case measure => simp [intOf]; omega
      · have HD : Box (wst I0 (k + 1) = max A (I0 k).w) := boxed (by
          rw [HW.out]; unfold addd; rw [if_pos (by simpa using hk3)])
        generalize I0 k = x at *
        go_wp2_with fail
        all_goals
          go_roundw
          case rel => exact ⟨k + 1, by omega, by first | (rw [HD.out]; done) | (rw [HD.out]; congr 1; (try split) <;> omega), by go_num, HB⟩
          case measure => simp [intOf]; omega
    · obtain rfl : n0 = k := by omega
      have t3 : decide ((n0 : Int) < (n0 : Int)) = false := decide_eq_false (by omega)
      clear hlt hk
      generalize wst I0 n0 = M at *
      have HPr := boxed (HPY.out.below HB.out)
      have HBr := boxed (below_step HBY.out (Nat.le_refl _) HB.out)
      have F1 := boxed ((HB.out.block w4.heap.size (by omega)).trans EY1.out)
      have F2 := boxed ((HB.out.block (w4.heap.size + 1) (by omega)).trans EY2.out)
      have F3 := boxed ((HB.out.block w5.heap.size (by omega)).trans K5.out)
      have hzr : w5.heap.size + 1 ≤ wr.heap.size := by have := HB.out.size; omega
      go_wp2_with fail
      refine (hBo.out _ _ _ HPr.out).mono ?_
      rintro e w7 ⟨rfl, hb7⟩
      have HP7 := boxed (HPr.out.below hb7)
      have HB7 := boxed (below_step HBr.out (Nat.le_refl _) hb7)
      have G1 := boxed ((hb7.block w4.heap.size (by omega)).trans F1.out)
      have G2 := boxed ((hb7.block (w4.heap.size + 1) (by omega)).trans F2.out)
      have G3 := boxed ((hb7.block w5.heap.size (by omega)).trans F3.out)
      have hz7 : w5.heap.size + 1 ≤ w7.heap.size := by have := hb7.size; omega
      clear hb7 HPr HBr F1 F2 F3 hBo
      obtain ⟨⟨g0, g1, g2, g3⟩, -⟩ := cells4 G3.out
      have hSt7 := hSt.out _ _ _ HP7.out
      have hRs7 := hRs.out _ HB7.out
      generalize sta I0 n0 a1 = s0 at *
      have hq := fun w => eqlSum L L w
      rw [Sm.like_self] at hq
      unfold Sm.val at hq
      have hgd := guardSum
      clear hSt hRs
      cases hf : decide (0 < U.f)
      all_goals
        go_wp2_with fail
        refine hSt7.mono ?_
        rintro e w7' ⟨rfl, hw7⟩
        subst w7'
        go_wp2_with fail
        refine hRs7.mono ?_
        rintro e w8 ⟨rfl, hb8⟩
        have HB8 := boxed (below_step HB7.out (Nat.le_refl _) hb8)
        have J1 := (hb8.block w4.heap.size (by omega)).trans G1.out
        have J2 := (hb8.block (w4.heap.size + 1) (by omega)).trans G2.out
        have J3 := (hb8.block w5.heap.size (by omega)).trans G3.out
        have hz8 : w5.heap.size + 1 ≤ w8.heap.size := by have := hb8.size; omega
        clear hb8 g0 g1 g2 g3 hSt7 hRs7
        obtain ⟨⟨g0, g1, g2, g3⟩, -⟩ := cells4 J3
        obtain ⟨⟨p0, p1, p2, p3⟩, -⟩ := cells4 J2
        obtain ⟨⟨q0, q1, q2, q3⟩, -⟩ := cells4 J1
        clear J1 J2 J3
        go_wp2_with fail
        go_ret
        exact ⟨rfl, HB8.out⟩

set_option maxRecDepth 100000 in
theorem lifted (os : Os) (started : os.Started) (H : Type) (enc : TypeId × Value → H) :
    ReturnsInHanded {} Try.checked os 4 .any (Rows.measureLinesSpec.pre6 enc Try.prog Try.f4 Rows.measureLinesRow.domain false) (Rows.measureLinesSpec.post enc Try.prog Try.f4 false true false false) := by
  refine returnsInHanded_of_change_sized (C := Try.checked) own started (by kernel_rfl) Try.func4
    (ChangeSpec.witness6 (enc := enc) (C := Try.checked) false ⟨#[], #[.slice none 0 0, .int .i64 0, .int .i64 0], []⟩ 8 (by kernel_rfl) (by kernel_rfl) (by kernel_rfl) (by kernel_rfl)) ?_
  intro W base args ds gs before hval0 hW hcnd hsz0 _
  have hval : ∀ (j : Nat) t v, Try.f4.params[j]? = some t → args[j]? = some v → Value.okWide Try.prog W .any base t v := hval0
  have hsz : (DataW.weightsEach Try.prog (Try.f4.params.toList ++ Rows.measureLinesSpec.plain.varTypes Try.prog) (ds ++ gs)).all (· ≤ reachBytes) = true := hsz0
  have hW' := hW
  obtain ⟨p, q, hA0, hV, rfl, hfz, hnd⟩ := hW
  have hA : DataW.TrodAll enc Try.prog W 0 (fun _ => true) true Try.f4.params.toList args.toList ds p := hA0
  rw [Try.params4] at hA hval hsz
  obtain ⟨v0, vs0, d0, ds0, p0, q0, hargs, rfl, rfl, h0, r0⟩ := trodAll_cons hA
  obtain ⟨v1, vs1, d1, ds1, p1, q1, rfl, rfl, rfl, h1, r1⟩ := trodAll_cons r0
  obtain ⟨v2, vs2, d2, ds2, p2, q2, rfl, rfl, rfl, h2, r2⟩ := trodAll_cons r1
  obtain ⟨rfl, rfl, rfl⟩ := trodAll_nil r2
  obtain rfl : args = #[v0, v1, v2] := by cases args; simp_all
  obtain ⟨rfl, rfl⟩ := trodVars_none hV
  obtain ⟨ao0, n0, cap0, rfl⟩ := okWide_slice Try.underlying22 (hval 0 22 v0 rfl rfl)
  have k0 := h0
  have lt0 : ∀ x ∈ p0, x.block < W.heap.size := by obtain ⟨m, hm⟩ := k0; exact DataW.trod_lt m _ _ _ hm
  obtain ⟨hn0, I0, hI0⟩ : n0 ≤ maxLen ∧ ∃ I, ItsAt (fun _ => True) W ao0 n0 I := by
    obtain ⟨fuel, hf⟩ := k0
    exact open_items hf
  obtain ⟨a1, rfl, rfl, rfl, w1⟩ := open_int Try.underlying3 (hval 1 3 v1 rfl rfl) h1
  obtain ⟨a2, rfl, rfl, rfl, w2⟩ := open_int Try.underlying3 (hval 2 3 v2 rfl rfl) h2
  clear hA0 hval0
  refine (walk W ao0 n0 cap0 I0 hn0 hI0 a1 w1 a2 w2).mono fun e W' ⟨he, hg⟩ => ?_
  subst he
  exact ⟨_, rfl, _, _, _, [], _, [], hW', trodAll_mk1 (shut_bool Try.underlying4 _), (trodAll_cons_mk (Below.trod laidOut (by kernel_rfl) (of_decide_eq_true (by kernel_rfl)) k0 hg lt0) (trodAll_cons_mk (shut_int Try.underlying3 w1) (trodAll_cons_mk (shut_int Try.underlying3 w2) trodAll_mk0))), rfl, hg.frame _, fun h => by cases h⟩

theorem proved : Rows.MeasureLinesSaid :=
  OpenClaim.holds_of_wide 4 Try.f4 rfl rfl rfl rfl rfl rfl rfl ⟨rfl, rfl, rfl, rfl, rfl⟩ rfl rfl rfl rfl rfl (by kernel_rfl) Try.func4 (by kernel_rfl)
    (of_decide_eq_true (by kernel_rfl)) (by unfold Func.isWrapper; first | (rw [if_pos (by decide +kernel)]; kernel_rfl) | (rw [if_neg (by decide +kernel)]; exact ⟨rfl, rfl⟩))
    (fun os started H enc _ => lifted os started H enc)
#print axioms proved
end Go.Proofs.Ytkoaoejlbkdkgaa.measureLines
