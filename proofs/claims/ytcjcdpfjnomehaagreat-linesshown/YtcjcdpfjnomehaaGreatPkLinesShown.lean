/-
  For any line the statement LinesShown of the program returns true: what is seen of a line with a right text of at most 2000 bytes is what the page says. No condition besides the statement's own.
-/
import Derived.Test.YtcjcdpfjnomehaaGreatRows
import Derived.WalkKit
import Derived.ProofKit
import Derived.OpenShut
import Derived.SizedLaws
import Derived.ShutString
import Derived.ChangeOld
import Derived.Below
import Derived.Test.YtcjcdpfjnomehaaGreatPk25
import Derived.Test.YtcjcdpfjnomehaaGreatPk29
import Derived.Test.YtcjcdpfjnomehaaGreatPk38
import Derived.Lib.QuietBelow
import Derived.BigQuiet
namespace Go.Proofs.YtcjcdpfjnomehaaGreat.linesShown
open Go.ChangeShapes Go.WideShapes Go.ChangeAt Go.RowKit
open Go.ChangeMaps (open_string shut_string)
set_option linter.unusedVariables false
set_option linter.unusedSimpArgs false
theorem own : ownKnob Tryz.prog.godebug = none := by kernel_rfl
theorem laidOut : laidOutB Tryz.prog = true := by kernel_rfl
set_option maxRecDepth 100000 in
set_option maxHeartbeats 8000000 in
theorem walk (w : World) (x0 : Lne) (hx0 : LneOk x0 ∧ x0.tx.size ≤ 140737488351232) (hp0 : Ru.P2At (fun _ => True) w x0.ra x0.rn x0.L x0.Y) :
    Calls Tryz.prog 5 #[x0.val] w fun e w' => e = .returned (.bool true) ∧ Below w.heap.size w w' := by
  obtain ⟨N, hN⟩ := It.cnt_ex x0.tx
  obtain ⟨W0, hW0⟩ : ∃ W0, w.alloc (.cells #[.string x0.tx, .slice x0.ra x0.rn x0.rc, .int .i64 x0.num, .int .i64 x0.den, .int .i64 x0.h, .bool x0.hy, .int .i64 x0.y, .bool x0.bg, .bool x0.en] 59) = W0 := ⟨_, rfl⟩
  have HK : Box (∀ W, Below W0.heap.size W0 W → (W.cell? ⟨w.heap.size, 0, none⟩ = some (.string x0.tx) ∧ W.cell? ⟨w.heap.size, 1, none⟩ = some (.slice x0.ra x0.rn x0.rc) ∧ W.cell? ⟨w.heap.size, 2, none⟩ = some (.int .i64 x0.num) ∧ W.cell? ⟨w.heap.size, 3, none⟩ = some (.int .i64 x0.den) ∧ W.cell? ⟨w.heap.size, 4, none⟩ = some (.int .i64 x0.h) ∧ W.cell? ⟨w.heap.size, 5, none⟩ = some (.bool x0.hy) ∧ W.cell? ⟨w.heap.size, 6, none⟩ = some (.int .i64 x0.y) ∧ W.cell? ⟨w.heap.size, 7, none⟩ = some (.bool x0.bg) ∧ W.cell? ⟨w.heap.size, 8, none⟩ = some (.bool x0.en)) ∧ Below w.heap.size w W) := boxed (fun W hb => by
    rw [← hW0] at hb
    exact ⟨⟨kept_first hb 0, kept_first hb 1, kept_first hb 2, kept_first hb 3, kept_first hb 4, kept_first hb 5, kept_first hb 6, kept_first hb 7, kept_first hb 8⟩, kept_below (Below.refl _ w) (Nat.le_refl _) hb⟩)
  have HA := boxed (awake10_any W0)
  have HRg := boxed (fun W (h : x0.tx.size ≤ 1048576) => It.refright_any x0.tx W h N hN)
  have HSh := boxed (fun W h1 h2 => shown_any x0 W N h1 h2)
  have HRf := boxed (fun W h1 h2 => refshown_any x0 W N h1 h2)
  have HNN := boxed (fun h => It.right_of x0.tx N hN h)
  have hsz := hx0.1.tx
  unfold maxLen at hsz
  clear hp0 hx0 hN
  unfold Lne.val at *
  obtain ⟨Z, hZ⟩ : ∃ Z, tx (encs (ke x0.tx N) ++ if x0.hy = true then [45] else []) = Z := ⟨_, rfl⟩
  rw [hZ] at HSh HRf
  clear hZ
  generalize x0.tx = t at *
  generalize x0.ra = ra at *
  generalize x0.rn = rn at *
  generalize x0.rc = rc at *
  generalize x0.num = q2 at *
  generalize x0.den = q3 at *
  generalize x0.h = q4 at *
  generalize x0.hy = q5 at *
  generalize x0.y = q6 at *
  generalize x0.bg = q7 at *
  generalize x0.en = q8 at *
  go_enter Tryz.func5, Tryz.ntmps5
  go_wp2_with fail
  refine HA.out.mono ?_
  rintro e w1 ⟨rfl, hb1⟩
  obtain ⟨⟨c0, c1, c2, c3, c4, c5, c6, c7, c8⟩, hB1⟩ := HK.out _ hb1
  have HB1 := boxed hB1
  have vc0 := cell_regrown c0
  have vc1 := cell_regrown c1
  have vc2 := cell_regrown c2
  have vc3 := cell_regrown c3
  have vc4 := cell_regrown c4
  have vc5 := cell_regrown c5
  have vc6 := cell_regrown c6
  have vc7 := cell_regrown c7
  have vc8 := cell_regrown c8
  clear hb1 hB1 HA HK hW0 c0 c1 c2 c3 c4 c5 c6 c7 c8
  by_cases hbig : 2000 < t.size
  · have t1 : decide ((2000 : Int) < (t.size : Int)) = true := decide_eq_true (by omega)
    clear hbig HRg HSh HRf HNN
    go_wp2_with fail
    refine wp_region_quiet_below (by kernel_rfl) (by kernel_rfl) ?_
    repeat (go_big_quiet_step (fail))
    refine wpQuiet_nil ?_
    intro _ hw'
    obtain ⟨⟨dq, osq⟩, hw''⟩ := hw'
    subst hw''
    have HB6 := boxed (below_step HB1.out (Nat.le_refl _) (below_regrown w1 dq osq))
    generalize Go.Sort.grow (redrawn w1 dq) osq = w5 at *
    clear vc0 vc1 vc2 vc3 vc4 vc5 vc6 vc7 vc8
    go_wp2
    go_ret
    exact ⟨rfl, HB6.out⟩
  have t1 : decide ((2000 : Int) < (t.size : Int)) = false := decide_eq_false (by omega)
  have CR := boxed (fun d os => Calls.regrown_of (w := w1) (d := d) (os := os) (HRg.out _ (by omega)))
  cases hR : decide (It.badAt t N < 0) with
  | false =>
    rw [hR] at CR
    clear hbig HRg HSh HRf HNN hR
    go_wp2_with fail
    refine wp_region_quiet_below (by kernel_rfl) (by kernel_rfl) ?_
    repeat (go_big_quiet_step (exact CR.out _ _))
    refine wpQuiet_nil ?_
    intro _ hw'
    obtain ⟨⟨dq, osq⟩, hw''⟩ := hw'
    subst hw''
    have HB6 := boxed (below_step HB1.out (Nat.le_refl _) (below_regrown w1 dq osq))
    generalize Go.Sort.grow (redrawn w1 dq) osq = w5 at *
    clear vc0 vc1 vc2 vc3 vc4 vc5 vc6 vc7 vc8 CR
    go_wp2
    go_ret
    exact ⟨rfl, HB6.out⟩
  | true =>
    rw [hR] at CR
    have hRt := HNN.out (of_decide_eq_true hR)
    have CS := boxed (fun d os => Calls.regrown_of (w := w1) (d := d) (os := os) (HSh.out _ hRt (by omega)))
    have CF := boxed (fun d os => Calls.regrown_of (w := w1) (d := d) (os := os) (HRf.out _ hRt (by omega)))
    clear hbig HRg HSh HRf HNN hR hRt
    go_wp2_with fail
    refine wp_region_quiet_below (by kernel_rfl) (by kernel_rfl) ?_
    repeat (go_big_quiet_step (first | (go_at_call 26; exact CR.out _ _) | (go_at_call 29; exact CS.out _ _) | (go_at_call 30; exact CF.out _ _)))
    refine wpQuiet_nil ?_
    intro _ hw'
    obtain ⟨⟨dq, osq⟩, hw''⟩ := hw'
    subst hw''
    have HB6 := boxed (below_step HB1.out (Nat.le_refl _) (below_regrown w1 dq osq))
    generalize Go.Sort.grow (redrawn w1 dq) osq = w5 at *
    clear vc0 vc1 vc2 vc3 vc4 vc5 vc6 vc7 vc8 CR CS CF
    go_wp2
    go_ret
    exact ⟨by simp, HB6.out⟩
set_option maxRecDepth 100000 in
theorem lifted (os : Os) (started : os.Started) (H : Type) (enc : TypeId × Value → H) :
    ReturnsInHanded {} Tryz.checked os 5 .any (Rows.linesShownSpec.pre6 enc Tryz.prog Tryz.f5 Rows.linesShownRow.domain false) (Rows.linesShownSpec.post enc Tryz.prog Tryz.f5 false true false false) := by
  refine returnsInHanded_of_change_sized (C := Tryz.checked) own started (by kernel_rfl) Tryz.func5
    (ChangeSpec.witness6 (enc := enc) (C := Tryz.checked) false ⟨#[], #[.agg #[.string ByteArray.empty, .slice none 0 0, .int .i64 0, .int .i64 0, .int .i64 0, .bool false, .int .i64 0, .bool false, .bool false]], []⟩ 8 (by kernel_rfl) (by kernel_rfl) (by kernel_rfl) (by kernel_rfl)) ?_
  intro W base args ds gs before hval0 hW hcnd hsz0 _
  have hval : ∀ (j : Nat) t v, Tryz.f5.params[j]? = some t → args[j]? = some v → Value.okWide Tryz.prog W .any base t v := hval0
  have hsz : (DataW.weightsEach Tryz.prog (Tryz.f5.params.toList ++ Rows.linesShownSpec.plain.varTypes Tryz.prog) (ds ++ gs)).all (· ≤ reachBytes) = true := hsz0
  have hW' := hW
  obtain ⟨p, q, hA0, hV, rfl, hfz, hnd⟩ := hW
  have hA : DataW.TrodAll enc Tryz.prog W 0 (fun _ => true) true Tryz.f5.params.toList args.toList ds p := hA0
  rw [Tryz.params5] at hA hval hsz
  obtain ⟨v0, vs0, d0, ds0, p0, q0, hargs, rfl, rfl, h0, r0⟩ := trodAll_cons hA
  obtain ⟨rfl, rfl, rfl⟩ := trodAll_nil r0
  obtain rfl : args = #[v0] := by cases args; simp_all
  obtain ⟨rfl, rfl⟩ := trodVars_none hV
  have k0 := h0
  have lt0 : ∀ x ∈ p0, x.block < W.heap.size := by obtain ⟨m, hm⟩ := k0; exact DataW.trod_lt m _ _ _ hm
  obtain ⟨x0, rfl, hx0, hp0⟩ : ∃ x : Lne, v0 = x.val ∧ (LneOk x ∧ x.tx.size ≤ 140737488351232) ∧ Ru.P2At (fun _ => True) W x.ra x.rn x.L x.Y := by
    obtain ⟨fuel, hf⟩ := k0
    exact line_value2 hf (fun n hn => by simpa using List.all_eq_true.1 hsz _ (DataW.weights_mem_each (j := 0) rfl rfl n hn))
  clear hA0 hval0
  refine (walk W x0 hx0 hp0).mono fun e W' ⟨he, hg⟩ => ?_
  subst he
  exact ⟨_, rfl, _, _, _, [], _, [], hW', trodAll_mk1 (shut_bool Tryz.underlying4 _), (trodAll_cons_mk (Below.trod laidOut (by kernel_rfl) (of_decide_eq_true (by kernel_rfl)) k0 hg lt0) trodAll_mk0), rfl, hg.frame _, fun h => by cases h⟩
theorem proved : Rows.LinesShownSaid :=
  OpenClaim.holds_of_wide 5 Tryz.f5 rfl rfl rfl rfl rfl rfl rfl ⟨rfl, rfl, rfl, rfl, rfl⟩ rfl rfl rfl rfl rfl (by kernel_rfl) Tryz.func5 (by kernel_rfl)
    (of_decide_eq_true (by kernel_rfl)) (by unfold Func.isWrapper; first | (rw [if_pos (by decide +kernel)]; kernel_rfl) | (rw [if_neg (by decide +kernel)]; exact ⟨rfl, rfl⟩))
    (fun os started H enc _ => lifted os started H enc)
#print axioms proved
end Go.Proofs.YtcjcdpfjnomehaaGreat.linesShown
