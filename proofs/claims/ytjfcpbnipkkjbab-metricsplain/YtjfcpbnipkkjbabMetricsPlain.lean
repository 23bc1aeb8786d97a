/-
  For every two numbers the law MetricsPlain answers true: the plain style is the one that the page says, and New takes it just where its measures may be.
-/
import Derived.Test.YtjfcpbnipkkjbabRows
import Derived.WalkKit
import Derived.ProofKit
import Derived.OpenShut
import Derived.SizedLaws
import Derived.ShutString
import Derived.ChangeOld
import Derived.Below
import Derived.Test.YtjfcpbnipkkjbabPs
namespace Go.Proofs.Ytjfcpbnipkkjbab.metricsPlain
open Go.ChangeShapes Go.WideShapes Go.ChangeAt Go.RowKit
open Go.ChangeMaps (open_string shut_string)
set_option linter.unusedVariables false
set_option linter.unusedSimpArgs false

theorem own : ownKnob Try.prog.godebug = none := by kernel_rfl
theorem laidOut : laidOutB Try.prog = true := by kernel_rfl

set_option maxRecDepth 100000 in
set_option maxHeartbeats 8000000 in
theorem walk (w : World) (a0 : Int) (w0 : (Lit.int .i64 a0).wf = true) (a1 : Int) (w1 : (Lit.int .i64 a1).wf = true) :
    Calls Try.prog 3 #[.int .i64 a0, .int .i64 a1] w fun e w' => e = .returned (.bool true) ∧ Below w.heap.size w w' := by
  have i0 : I64 a0 := by
    have h' : IntKind.i64.min ≤ a0 ∧ a0 ≤ IntKind.i64.max := by simpa [Lit.wf] using w0
    exact ⟨h'.1, h'.2⟩
  have i1 : I64 a1 := by
    have h' : IntKind.i64.min ≤ a1 ∧ a1 ≤ IntKind.i64.max := by simpa [Lit.wf] using w1
    exact ⟨h'.1, h'.2⟩
  have q2 := wr2 a1 i1
  have q3 := wr3 a1 i1
  have HCK := boxed (plS_ck a0 a1 i1)
  have hun : undef = Value.tuple #[] := rfl
  go_enter Try.func3, Try.ntmps3
  go_wp2_with fail
  refine (awake_any _).mono ?_
  rintro e w2 ⟨rfl, hb2⟩
  have HB2 := boxed hb2
  clear hb2
  go_wp2_with fail
  refine (plain_any a0 a1 i1 _).mono ?_
  rintro e w3 ⟨rfl, hw3⟩
  subst hw3
  have f1 : StysAt (fun _ => True) ((w2.alloc (.cells #[.int .i64 a0, .int .i64 a1, .int .i64 (a1.tdiv 2), .int .i64 (a1.tdiv 3), .int .i64 a1, .int .i64 a1, .slice none 0 0, .bool false] 27)).alloc (.cells #[.int .i64 a0, .int .i64 a1, .int .i64 (a1.tdiv 2), .int .i64 (a1.tdiv 3), .int .i64 a1, .int .i64 a1, .slice none 0 0, .bool false] 27)) (some ⟨w2.heap.size, 0, none⟩) 1 (fun _ => plS a0 a1) := plS_at a0 a1 i0 i1 (fun j => by
    rw [((Below.refl _ _).alloc (Nat.le_refl _) _ : Below (w2.alloc (.cells #[.int .i64 a0, .int .i64 a1, .int .i64 (a1.tdiv 2), .int .i64 (a1.tdiv 3), .int .i64 a1, .int .i64 a1, .slice none 0 0, .bool false] 27)).heap.size _ _).cell (p := ⟨w2.heap.size, j, none⟩) (by simp)]
    exact cell_first _ _ _ _)
  have f2 : StysAt (fun _ => True) ((w2.alloc (.cells #[.int .i64 a0, .int .i64 a1, .int .i64 (a1.tdiv 2), .int .i64 (a1.tdiv 3), .int .i64 a1, .int .i64 a1, .slice none 0 0, .bool false] 27)).alloc (.cells #[.int .i64 a0, .int .i64 a1, .int .i64 (a1.tdiv 2), .int .i64 (a1.tdiv 3), .int .i64 a1, .int .i64 a1, .slice none 0 0, .bool false] 27)) (some ⟨w2.heap.size + 1, 0, none⟩) 1 (fun _ => plS a0 a1) := plS_at a0 a1 i0 i1 (fun j => cell_second _ _ _ _ _)
  have HNW := boxed (new_any (fun _ => True) _ 1 1 (fun _ => plS a0 a1) _ f1)
  have HSM := boxed (fun w' hb => refsame_any (fun _ => True) _ 1 1 (fun _ => plS a0 a1) _ 1 1 (fun _ => plS a0 a1) w' (f1.below hb) (f2.below hb) (by unfold maxLen; omega))
  simp only [plS_same] at HSM
  clear f1 f2
  go_wp2_with fail
  refine HNW.out.mono ?_
  rintro e w4 ⟨hor, hb4⟩
  have HB4 : Box (Below w.heap.size w w4) := boxed (below_step (below_step HB2.out (Nat.le_refl _) (by go_grown)) (Nat.le_refl _) hb4)
  have H4 := boxed hb4
  clear hb4 HNW
  rcases hor with ⟨hne, rfl⟩ | ⟨hz, tb, G, rfl, -, -⟩
  · rw [HCK.out] at hne
    have hno : ¬ ((1 ≤ a0 ∧ a0 ≤ 1048576) ∧ 0 ≤ a1 ∧ a1 ≤ 1048576) := fun c => hne (if_pos c)
    have hcv : ckc (fun _ => plS a0 a1) 1 = 41 := by rw [HCK.out, if_neg hno]
    rw [hcv]
    clear hne hcv HCK
    generalize ckp (fun _ => plS a0 a1) 1 = Q at *
    have h4 : a0 < 1 ∨ (1 ≤ a0 ∧ 1048576 < a0) ∨ (1 ≤ a0 ∧ a0 ≤ 1048576 ∧ a1 < 0) ∨ (1 ≤ a0 ∧ a0 ≤ 1048576 ∧ 0 ≤ a1 ∧ 1048576 < a1) := by omega
    rcases h4 with c | c | c | c
    · have d1 : decide (1 ≤ a0) = false := decide_eq_false (by omega)
      clear c hno
      go_wp2_with (go_at_call 7; refine (HSM.out _ H4.out).mono ?_; rintro e w5 ⟨rfl, hb5⟩; have HB5 := boxed (below_step HB4.out (Nat.le_refl _) hb5); clear hb5 HSM)
      go_ret
      exact ⟨rfl, HB5.out⟩
    · have d1 : decide (1 ≤ a0) = true := decide_eq_true (by omega)
      have d2 : decide (a0 ≤ 1048576) = false := decide_eq_false (by omega)
      clear c hno
      go_wp2_with (go_at_call 7; refine (HSM.out _ H4.out).mono ?_; rintro e w5 ⟨rfl, hb5⟩; have HB5 := boxed (below_step HB4.out (Nat.le_refl _) hb5); clear hb5 HSM)
      go_ret
      exact ⟨rfl, HB5.out⟩
    · have d1 : decide (1 ≤ a0) = true := decide_eq_true (by omega)
      have d2 : decide (a0 ≤ 1048576) = true := decide_eq_true (by omega)
      have d3 : decide (0 ≤ a1) = false := decide_eq_false (by omega)
      clear c hno
      go_wp2_with (go_at_call 7; refine (HSM.out _ H4.out).mono ?_; rintro e w5 ⟨rfl, hb5⟩; have HB5 := boxed (below_step HB4.out (Nat.le_refl _) hb5); clear hb5 HSM)
      go_ret
      exact ⟨rfl, HB5.out⟩
    · have d1 : decide (1 ≤ a0) = true := decide_eq_true (by omega)
      have d2 : decide (a0 ≤ 1048576) = true := decide_eq_true (by omega)
      have d3 : decide (0 ≤ a1) = true := decide_eq_true (by omega)
      have d4 : decide (a1 ≤ 1048576) = false := decide_eq_false (by omega)
      clear c hno
      go_wp2_with (go_at_call 7; refine (HSM.out _ H4.out).mono ?_; rintro e w5 ⟨rfl, hb5⟩; have HB5 := boxed (below_step HB4.out (Nat.le_refl _) hb5); clear hb5 HSM)
      go_ret
      exact ⟨rfl, HB5.out⟩
  · rw [HCK.out] at hz
    have hyes : (1 ≤ a0 ∧ a0 ≤ 1048576) ∧ 0 ≤ a1 ∧ a1 ≤ 1048576 := by
      by_cases c : (1 ≤ a0 ∧ a0 ≤ 1048576) ∧ 0 ≤ a1 ∧ a1 ≤ 1048576
      · exact c
      · rw [if_neg c] at hz; omega
    have d1 : decide (1 ≤ a0) = true := decide_eq_true hyes.1.1
    have d2 : decide (a0 ≤ 1048576) = true := decide_eq_true hyes.1.2
    have d3 : decide (0 ≤ a1) = true := decide_eq_true hyes.2.1
    have d4 : decide (a1 ≤ 1048576) = true := decide_eq_true hyes.2.2
    clear hz hyes HCK
    go_wp2_with (go_at_call 7; refine (HSM.out _ H4.out).mono ?_; rintro e w5 ⟨rfl, hb5⟩; have HB5 := boxed (below_step HB4.out (Nat.le_refl _) hb5); clear hb5 HSM)
    go_ret
    exact ⟨rfl, HB5.out⟩

set_option maxRecDepth 100000 in
theorem lifted (os : Os) (started : os.Started) (H : Type) (enc : TypeId × Value → H) :
    ReturnsInHanded {} Try.checked os 3 .any (Rows.metricsPlainSpec.pre6 enc Try.prog Try.f3 Rows.metricsPlainRow.domain false) (Rows.metricsPlainSpec.post enc Try.prog Try.f3 false true false false) := by
  refine returnsInHanded_of_change_sized (C := Try.checked) own started (by kernel_rfl) Try.func3
    (ChangeSpec.witness6 (enc := enc) (C := Try.checked) false ⟨#[], #[.int .i64 0, .int .i64 0], []⟩ 8 (by kernel_rfl) (by kernel_rfl) (by kernel_rfl) (by kernel_rfl)) ?_
  intro W base args ds gs before hval0 hW hcnd hsz0 _
  have hval : ∀ (j : Nat) t v, Try.f3.params[j]? = some t → args[j]? = some v → Value.okWide Try.prog W .any base t v := hval0
  have hsz : (DataW.weightsEach Try.prog (Try.f3.params.toList ++ Rows.metricsPlainSpec.plain.varTypes Try.prog) (ds ++ gs)).all (· ≤ reachBytes) = true := hsz0
  have hW' := hW
  obtain ⟨p, q, hA0, hV, rfl, hfz, hnd⟩ := hW
  have hA : DataW.TrodAll enc Try.prog W 0 (fun _ => true) true Try.f3.params.toList args.toList ds p := hA0
  rw [Try.params3] at hA hval hsz
  obtain ⟨v0, vs0, d0, ds0, p0, q0, hargs, rfl, rfl, h0, r0⟩ := trodAll_cons hA
  obtain ⟨v1, vs1, d1, ds1, p1, q1, rfl, rfl, rfl, h1, r1⟩ := trodAll_cons r0
  obtain ⟨rfl, rfl, rfl⟩ := trodAll_nil r1
  obtain rfl : args = #[v0, v1] := by cases args; simp_all
  obtain ⟨rfl, rfl⟩ := trodVars_none hV
  obtain ⟨a0, rfl, rfl, rfl, w0⟩ := open_int Try.underlying3 (hval 0 3 v0 rfl rfl) h0
  obtain ⟨a1, rfl, rfl, rfl, w1⟩ := open_int Try.underlying3 (hval 1 3 v1 rfl rfl) h1
  clear hA0 hval0
  refine (walk W a0 w0 a1 w1).mono fun e W' ⟨he, hg⟩ => ?_
  subst he
  exact ⟨_, rfl, _, _, _, [], _, [], hW', trodAll_mk1 (shut_bool Try.underlying4 _), (trodAll_cons_mk (shut_int Try.underlying3 w0) (trodAll_cons_mk (shut_int Try.underlying3 w1) trodAll_mk0)), rfl, hg.frame _, fun h => by cases h⟩

theorem proved : Rows.MetricsPlainSaid :=
  OpenClaim.holds_of_wide 3 Try.f3 rfl rfl rfl rfl rfl rfl rfl ⟨rfl, rfl, rfl, rfl, rfl⟩ rfl rfl rfl rfl rfl (by kernel_rfl) Try.func3 (by kernel_rfl)
    (of_decide_eq_true (by kernel_rfl)) (by unfold Func.isWrapper; first | (rw [if_pos (by decide +kernel)]; kernel_rfl) | (rw [if_neg (by decide +kernel)]; exact ⟨rfl, rfl⟩))
    (fun os started H enc _ => lifted os started H enc)
#print axioms proved
end Go.Proofs.Ytjfcpbnipkkjbab.metricsPlain
