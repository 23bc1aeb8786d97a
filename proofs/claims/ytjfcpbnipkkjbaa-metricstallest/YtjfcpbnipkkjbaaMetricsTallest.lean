/-
  For every list of styles and every list of runs the law MetricsTallest answers true and leaves its arguments as they were: of styles that are right a table's Tallest is the document's.
-/
import Derived.Test.YtjfcpbnipkkjbaaRows
import Derived.WalkKit
import Derived.ProofKit
import Derived.OpenShut
import Derived.SizedLaws
import Derived.ShutString
import Derived.ChangeOld
import Derived.Below
import Derived.Test.YtjfcpbnipkkjbaaMn
import Derived.Test.YtjfcpbnipkkjbaaMp
namespace Go.Proofs.Ytjfcpbnipkkjbaa.metricsTallest
open Go.ChangeShapes Go.WideShapes Go.ChangeAt Go.RowKit
open Go.ChangeMaps (open_string shut_string)
set_option linter.unusedVariables false
set_option linter.unusedSimpArgs false

theorem own : ownKnob Try.prog.godebug = none := by kernel_rfl
theorem laidOut : laidOutB Try.prog = true := by kernel_rfl

set_option maxRecDepth 100000 in
set_option maxHeartbeats 2000000 in
theorem walk (w : World) (ao0 : Option Addr) (n0 cap0 : Nat) (F0 : Nat → Sty) (hn0 : n0 ≤ cap0 ∧ cap0 * 80 ≤ 140737488351232) (hF0 : StysAt (fun _ => True) w ao0 n0 F0) (ao1 : Option Addr) (n1 cap1 : Nat) (L1 Y1 : Nat → Int) (hn1 : n1 ≤ maxLen) (hF1 : RunsAt w ao1 n1 L1 Y1) :
    Calls Try.prog 7 #[.slice ao0 n0 cap0, .slice ao1 n1 cap1] w fun e w' => e = .returned (.bool true) ∧ Below w.heap.size w w' := by
  have htb := fun w' (hb : Below w.heap.size w w') => table_any (fun _ => True) ao0 n0 cap0 F0 w' (hF0.below hb)
  have hrw := fun w' (hb : Below w.heap.size w w') => reftallest_any (fun _ => True) ao0 n0 cap0 F0 w' (hF0.below hb) ao1 n1 cap1 L1 Y1 hn1 (hF1.below hb)
  have HF1 := boxed hF1
  clear hF0 hF1
  go_enter Try.func7, Try.ntmps7
  go_wp2_with fail
  refine (awake_any _).mono ?_
  rintro e w1 ⟨rfl, hb1⟩
  have HB1 := boxed hb1
  clear hb1
  go_wp2_with fail
  refine (htb _ HB1.out).mono ?_
  rintro e w2 ⟨hor, hb2⟩
  have HB2 := boxed (below_step HB1.out (Nat.le_refl _) hb2)
  clear hb2 htb
  rcases hor with ⟨hne, rfl⟩ | ⟨hz, tb, G, rfl, hT, hL⟩
  · go_wp2
    go_ret
    exact ⟨rfl, HB2.out⟩
  · have hw := tallest_any hT ao1 n1 cap1 L1 Y1 hn1 (HF1.out.below HB2.out)
    rw [talT_like hL] at hw
    clear hT hL hz
    generalize talT F0 n0 L1 Y1 n1 = V at *
    go_wp2_with fail
    refine hw.mono ?_
    rintro e w3 ⟨rfl, hb3⟩
    have HB3 := boxed (below_step HB2.out (Nat.le_refl _) hb3)
    clear hb3 hw
    go_wp2_with fail
    refine (hrw _ HB3.out).mono ?_
    rintro e w4 ⟨rfl, hb4⟩
    have HB4 := boxed (below_step HB3.out (Nat.le_refl _) hb4)
    clear hb4 hrw
    go_wp2
    go_ret
    exact ⟨by simp, HB4.out⟩

set_option maxRecDepth 100000 in
theorem lifted (os : Os) (started : os.Started) (H : Type) (enc : TypeId × Value → H) :
    ReturnsInHanded {} Try.checked os 7 .any (Rows.metricsTallestSpec.pre6 enc Try.prog Try.f7 Rows.metricsTallestRow.domain false) (Rows.metricsTallestSpec.post enc Try.prog Try.f7 false true false false) := by
  refine returnsInHanded_of_change_sized (C := Try.checked) own started (by kernel_rfl) Try.func7
    (ChangeSpec.witness6 (enc := enc) (C := Try.checked) false ⟨#[], #[.slice none 0 0, .slice none 0 0], []⟩ 8 (by kernel_rfl) (by kernel_rfl) (by kernel_rfl) (by kernel_rfl)) ?_
  intro W base args ds gs before hval0 hW hcnd hsz0 _
  have hval : ∀ (j : Nat) t v, Try.f7.params[j]? = some t → args[j]? = some v → Value.okWide Try.prog W .any base t v := hval0
  have hsz : (DataW.weightsEach Try.prog (Try.f7.params.toList ++ Rows.metricsTallestSpec.plain.varTypes Try.prog) (ds ++ gs)).all (· ≤ reachBytes) = true := hsz0
  have hW' := hW
  obtain ⟨p, q, hA0, hV, rfl, hfz, hnd⟩ := hW
  have hA : DataW.TrodAll enc Try.prog W 0 (fun _ => true) true Try.f7.params.toList args.toList ds p := hA0
  rw [Try.params7] at hA hval hsz
  obtain ⟨v0, vs0, d0, ds0, p0, q0, hargs, rfl, rfl, h0, r0⟩ := trodAll_cons hA
  obtain ⟨v1, vs1, d1, ds1, p1, q1, rfl, rfl, rfl, h1, r1⟩ := trodAll_cons r0
  obtain ⟨rfl, rfl, rfl⟩ := trodAll_nil r1
  obtain rfl : args = #[v0, v1] := by cases args; simp_all
  obtain ⟨rfl, rfl⟩ := trodVars_none hV
  obtain ⟨ao0, n0, cap0, rfl⟩ := okWide_slice Try.underlying22 (hval 0 22 v0 rfl rfl)
  have k0 := h0
  have lt0 : ∀ x ∈ p0, x.block < W.heap.size := by obtain ⟨m, hm⟩ := k0; exact DataW.trod_lt m _ _ _ hm
  obtain ⟨hn0, -, F0, hF0⟩ : (n0 ≤ cap0 ∧ cap0 * 80 ≤ 140737488351232) ∧ (ao0 = none → n0 = 0 ∧ cap0 = 0) ∧ ∃ F, StysAt (fun _ => True) W ao0 n0 F := by
    obtain ⟨fuel, hf⟩ := k0
    exact open_styles hf (fun n hn => by simpa using List.all_eq_true.1 hsz _ (DataW.weights_mem_each (j := 0) rfl rfl n hn))
  obtain ⟨ao1, n1, cap1, rfl⟩ := okWide_slice Try.underlying57 (hval 1 57 v1 rfl rfl)
  have k1 := h1
  have lt1 : ∀ x ∈ p1, x.block < W.heap.size := by obtain ⟨m, hm⟩ := k1; exact DataW.trod_lt m _ _ _ hm
  obtain ⟨hn1, L1, Y1, hF1⟩ : n1 ≤ maxLen ∧ ∃ L Y, RunsAt W ao1 n1 L Y := by
    obtain ⟨fuel, hf⟩ := k1
    exact open_runs hf
  clear hA0 hval0
  refine (walk W ao0 n0 cap0 F0 hn0 hF0 ao1 n1 cap1 L1 Y1 hn1 hF1).mono fun e W' ⟨he, hg⟩ => ?_
  subst he
  exact ⟨_, rfl, _, _, _, [], _, [], hW', trodAll_mk1 (shut_bool Try.underlying4 _), (trodAll_cons_mk (Below.trod laidOut (by kernel_rfl) (of_decide_eq_true (by kernel_rfl)) k0 hg lt0) (trodAll_cons_mk (Below.trod laidOut (by kernel_rfl) (of_decide_eq_true (by kernel_rfl)) k1 hg lt1) trodAll_mk0)), rfl, hg.frame _, fun h => by cases h⟩

theorem proved : Rows.MetricsTallestSaid :=
  OpenClaim.holds_of_wide 7 Try.f7 rfl rfl rfl rfl rfl rfl rfl ⟨rfl, rfl, rfl, rfl, rfl⟩ rfl rfl rfl rfl rfl (by kernel_rfl) Try.func7 (by kernel_rfl)
    (of_decide_eq_true (by kernel_rfl)) (by unfold Func.isWrapper; first | (rw [if_pos (by decide +kernel)]; kernel_rfl) | (rw [if_neg (by decide +kernel)]; exact ⟨rfl, rfl⟩))
    (fun os started H enc _ => lifted os started H enc)
#print axioms proved
end Go.Proofs.Ytjfcpbnipkkjbaa.metricsTallest
