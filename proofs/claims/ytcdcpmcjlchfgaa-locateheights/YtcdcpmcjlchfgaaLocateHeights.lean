/-
  For every page and every height the law LocateHeights answers true: the line that is told is the last one that begins there or above.
  No condition besides the statement's own (pages above 200 lines are let go by the law itself).
-/
import Derived.Test.YtcdcpmcjlchfgaaRows
import Derived.WalkKit
import Derived.ProofKit
import Derived.OpenShut
import Derived.SizedLaws
import Derived.ShutString
import Derived.ChangeOld
import Derived.Below
import Derived.Test.YtcdcpmcjlchfgaaLpc
import Derived.Test.YtcdcpmcjlchfgaaLpn
import Derived.Test.YtcdcpmcjlchfgaaLpr
import Derived.Deep.Cut
namespace Go.Proofs.Ytcdcpmcjlchfgaa.locateHeights
open Go.ChangeShapes Go.WideShapes Go.ChangeAt Go.RowKit
open Go.ChangeMaps (open_string shut_string)
set_option linter.unusedVariables false
set_option linter.unusedSimpArgs false

theorem own : ownKnob Try.prog.godebug = none := by kernel_rfl
theorem laidOut : laidOutB Try.prog = true := by kernel_rfl

set_option maxRecDepth 100000 in
set_option maxHeartbeats 2000000 in
theorem walk (w : World) (x0 : Pgv) (hx0 : PgvOk x0) (hp0 : LnsAt (fun _ => True) w x0.la x0.ln x0.F) (a1 : Int) (w1 : (Lit.int .i64 a1).wf = true) :
    Calls Try.prog 8 #[.agg #[.slice x0.la x0.ln x0.lc], .int .i64 a1] w fun e w' => e = .returned (.bool true) ∧ Below w.heap.size w w' := by
  have hml := hx0.ln
  have HH := boxed (fun W (hb : Below w.heap.size w W) => lineat_any (fun _ => True) x0 a1 W (hp0.below hb) hml)
  have HP := boxed (fun W (hb : Below w.heap.size w W) => hp0.below hb)
  have L1 := laid1 w (.cells #[.slice x0.la x0.ln x0.lc] 62)
  have HB0 : Box (Below w.heap.size w (w.alloc (.cells #[.slice x0.la x0.ln x0.lc] 62))) := boxed L1.2.1
  have HC : Box (∀ W, Below (w.alloc (.cells #[.slice x0.la x0.ln x0.lc] 62)).heap.size (w.alloc (.cells #[.slice x0.la x0.ln x0.lc] 62)) W → W.cell? ⟨w.heap.size, 0, none⟩ = some (.slice x0.la x0.ln x0.lc)) := boxed (fun W hb => kept_first hb 0)
  have HAw := boxed (fun W => awake_any W)
  simp only [maxLen] at hml
  clear hx0 hp0 L1
  obtain ⟨wc, hwc⟩ : ∃ wc, w.alloc (.cells #[.slice x0.la x0.ln x0.lc] 62) = wc := ⟨_, rfl⟩
  rw [hwc] at HB0 HC
  have HWC := boxed hwc
  clear hwc
  go_enter Try.func8, Try.ntmps8
  go_upto_region 1 with (fail)
  rw [HWC.out]
  go_wp2_with fail
  refine (HAw.out _).mono ?_
  rintro e w1 ⟨rfl, hb1⟩
  have c0 := HC.out _ hb1
  have HB1 := boxed (below_step HB0.out (Nat.le_refl _) hb1)
  clear hb1 HAw
  by_cases g : 200 < x0.ln
  · have tg : decide ((200 : Int) < (x0.ln : Int)) = true := decide_eq_true (by omega)
    have tgn : decide (200 < x0.ln) = true := decide_eq_true g
    go_wp2_with fail
    go_ret
    exact ⟨rfl, HB1.out⟩
  · have tg : decide ((200 : Int) < (x0.ln : Int)) = false := decide_eq_false (by omega)
    have tgn : decide (200 < x0.ln) = false := decide_eq_false g
    go_wp2_with fail
    clear tg tgn
    go_loopw [5, 6] (fun lv iv wr => ∃ i : Nat, i ≤ x0.ln ∧ iv = .int .i64 (i : Nat) ∧ lv = .int .i64 (la x0.F a1 i : Nat) ∧ wr = w1) (fun _ iv _ => x0.ln - (intOf iv).toNat)
    case atStart => exact ⟨0, Nat.zero_le _, rfl, rfl, rfl⟩
    case round =>
      obtain ⟨i, hi, rfl, rfl, rfl⟩ := hrel
      by_cases hlt : i < x0.ln
      · have t0 : decide ((i : Int) < (x0.ln : Int)) = true := decide_eq_true (by omega)
        have hlt2 : (i : Int) < (x0.ln : Int) := by omega
        have hls := HP.out _ HB1.out
        obtain ⟨b, off, hla, -⟩ := hls.form (by omega)
        rw [hla] at hls c0
        obtain ⟨-, -, -, -, -, -, -, c6, -⟩ := hls.get i hlt
        have HE : Box (la x0.F a1 (i + 1) = if (x0.F i).y ≤ a1 then i else la x0.F a1 i) := boxed rfl
        by_cases cy : (x0.F i).y ≤ a1
        · have ty : decide ((x0.F i).y ≤ a1) = true := decide_eq_true cy
          have HV : Box (la x0.F a1 (i + 1) = i) := boxed (by rw [HE.out, if_pos cy])
          clear cy hla hls
          generalize (x0.F i).y = q at *
          go_wp2_with fail
          go_roundw
          case rel => exact ⟨i + 1, by omega, by go_num, by rw [HV.out], (by first | rfl | trivial)⟩
          case measure => simp [intOf] <;> omega
        · have ty : decide ((x0.F i).y ≤ a1) = false := decide_eq_false cy
          have HV : Box (la x0.F a1 (i + 1) = la x0.F a1 i) := boxed (by rw [HE.out, if_neg cy])
          clear cy hla hls
          generalize (x0.F i).y = q at *
          go_wp2_with fail
          go_roundw
          case rel => exact ⟨i + 1, by omega, by go_num, by rw [HV.out], (by first | rfl | trivial)⟩
          case measure => simp [intOf] <;> omega
      · have t0 : decide ((i : Int) < (x0.ln : Int)) = false := decide_eq_false (by omega)
        have hie : i = x0.ln := by omega
        have hh := HH.out _ HB1.out
        rw [show la x0.F a1 x0.ln = la x0.F a1 i by rw [hie]] at hh
        clear hie
        generalize la x0.F a1 i = q at *
        go_wp2_with fail
        refine hh.mono ?_
        rintro e w2 ⟨rfl, hb2⟩
        have c1 := hold hb2 c0
        have HB2 := boxed (below_step HB1.out (Nat.le_refl _) hb2)
        clear hb2 hh t0
        by_cases g0 : 0 < x0.ln
        · have tg : decide ((0 : Int) < (x0.ln : Int)) = true := decide_eq_true (by omega)
          have HG := boxed g0
          rw [decide_eq_true g0]
          clear g0
          go_wp2_with fail
          go_ret
          exact ⟨ret_bool (decide_eq_true HG.out), HB2.out⟩
        · have tg : decide ((0 : Int) < (x0.ln : Int)) = false := decide_eq_false (by omega)
          have HG := boxed g0
          rw [decide_eq_false g0]
          clear g0
          go_wp2_with fail
          go_ret
          exact ⟨ret_bool (by rw [decide_eq_false HG.out]; rfl), HB2.out⟩

set_option maxRecDepth 100000 in
theorem lifted (os : Os) (started : os.Started) (H : Type) (enc : TypeId × Value → H) :
    ReturnsInHanded {} Try.checked os 8 .any (Rows.locateHeightsSpec.pre6 enc Try.prog Try.f8 Rows.locateHeightsRow.domain false) (Rows.locateHeightsSpec.post enc Try.prog Try.f8 false true false false) := by
  refine returnsInHanded_of_change_sized (C := Try.checked) own started (by kernel_rfl) Try.func8
    (ChangeSpec.witness6 (enc := enc) (C := Try.checked) false ⟨#[], #[.agg #[.slice none 0 0], .int .i64 0], []⟩ 8 (by kernel_rfl) (by kernel_rfl) (by kernel_rfl) (by kernel_rfl)) ?_
  intro W base args ds gs before hval0 hW hcnd hsz0 _
  have hval : ∀ (j : Nat) t v, Try.f8.params[j]? = some t → args[j]? = some v → Value.okWide Try.prog W .any base t v := hval0
  have hsz : (DataW.weightsEach Try.prog (Try.f8.params.toList ++ Rows.locateHeightsSpec.plain.varTypes Try.prog) (ds ++ gs)).all (· ≤ reachBytes) = true := hsz0
  have hW' := hW
  obtain ⟨p, q, hA0, hV, rfl, hfz, hnd⟩ := hW
  have hA : DataW.TrodAll enc Try.prog W 0 (fun _ => true) true Try.f8.params.toList args.toList ds p := hA0
  rw [Try.params8] at hA hval hsz
  obtain ⟨v0, vs0, d0, ds0, p0, q0, hargs, rfl, rfl, h0, r0⟩ := trodAll_cons hA
  obtain ⟨v1, vs1, d1, ds1, p1, q1, rfl, rfl, rfl, h1, r1⟩ := trodAll_cons r0
  obtain ⟨rfl, rfl, rfl⟩ := trodAll_nil r1
  obtain rfl : args = #[v0, v1] := by cases args; simp_all
  obtain ⟨rfl, rfl⟩ := trodVars_none hV
  obtain ⟨cs0, rfl, -⟩ := WideShapes.okWide_struct Try.underlying62 (hval 0 62 v0 rfl rfl)
  have k0 := h0
  have lt0 : ∀ x ∈ p0, x.block < W.heap.size := by obtain ⟨m, hm⟩ := k0; exact DataW.trod_lt m _ _ _ hm
  obtain ⟨x0, rfl, hx0, hp0⟩ : ∃ x : Pgv, cs0 = #[.slice x.la x.ln x.lc] ∧ PgvOk x ∧ LnsAt (fun _ => True) W x.la x.ln x.F := by
    obtain ⟨fuel, hf⟩ := k0
    exact page15_value hf (fun n hn => by simpa using List.all_eq_true.1 hsz _ (DataW.weights_mem_each (j := 0) rfl rfl n hn))
  obtain ⟨a1, rfl, rfl, rfl, w1⟩ := open_int Try.underlying3 (hval 1 3 v1 rfl rfl) h1
  clear hA0 hval0
  refine (walk W x0 hx0 hp0 a1 w1).mono fun e W' ⟨he, hg⟩ => ?_
  subst he
  exact ⟨_, rfl, _, _, _, [], _, [], hW', trodAll_mk1 (shut_bool Try.underlying4 _), (trodAll_cons_mk (Below.trod laidOut (by kernel_rfl) (of_decide_eq_true (by kernel_rfl)) k0 hg lt0) (trodAll_cons_mk (shut_int Try.underlying3 w1) trodAll_mk0)), rfl, hg.frame _, fun h => by cases h⟩

theorem proved : Rows.LocateHeightsSaid :=
  OpenClaim.holds_of_wide 8 Try.f8 rfl rfl rfl rfl rfl rfl rfl ⟨rfl, rfl, rfl, rfl, rfl⟩ rfl rfl rfl rfl rfl (by kernel_rfl) Try.func8 (by kernel_rfl)
    (of_decide_eq_true (by kernel_rfl)) (by unfold Func.isWrapper; first | (rw [if_pos (by decide +kernel)]; kernel_rfl) | (rw [if_neg (by decide +kernel)]; exact ⟨rfl, rfl⟩))
    (fun os started H enc _ => lifted os started H enc)
#print axioms proved
end Go.Proofs.Ytcdcpmcjlchfgaa.locateHeights
