/-
  For any two texts and every place the law RunesJoins answers true and leaves its arguments as they were: two right texts of at most 4096 bytes one behind the other are right, with the runes and line ends of both; cut anywhere between runes they give two right texts, with as many runes (of longer texts the law asks nothing).
  (The frame of this text was written by the program proof-skeleton.mjs; the walk is ours.)
-/
import Derived.Test.YtifehmifgapodabRows
import Derived.WalkKit
import Derived.ProofKit
import Derived.OpenShut
import Derived.Test.YtifehmifgapodabUg
import Derived.Test.YtifehmifgapodabUr
import Derived.ShutString
namespace Go.Proofs.Ytifehmifgapodab.runesJoins
open Go.ChangeShapes Go.WideShapes Go.ChangeAt Go.RowKit
open Go.ChangeMaps (open_string shut_string)
set_option linter.unusedVariables false      -- a walk need not use every 'w<i>' (that an integer argument fits its kind)

theorem own : ownKnob Try.prog.godebug = none := by kernel_rfl

/-! ### STEP 1: THE WALK: the Go text returns true. 'Grown w w'': the world has at most new blocks (Derived/RowKit3.lean). Part the cases AHEAD of 'go_enter' where a test parts the walk; take each callee by a contract of your own. -/
set_option maxRecDepth 100000 in
set_option maxHeartbeats 800000 in
theorem walk (a0 : ByteArray) (a1 : ByteArray) (a2 : Int) (w0 : a0.size ≤ maxLen) (w1 : a1.size ≤ maxLen) (w2 : (Lit.int .i64 a2).wf = true) (w : World) :
    Calls Try.prog 5 #[.string a0, .string a1, .int .i64 a2] w fun e w' => e = .returned (.bool true) ∧ Below w.heap.size w w' := by
  have hs0 := w0
  have hs1 := w1
  unfold maxLen at hs0 hs1
  by_cases hA : 4096 < a0.size
  · have d0 : decide ((4096 : Int) < (a0.size : Int)) = true := decide_eq_true (by omega)
    go_enter Try.func5, Try.ntmps5
    go_wp2_with fail
    refine (awake_any _).mono ?_
    rintro e w' ⟨rfl, hw'⟩
    subst w'
    go_wp2
    go_ret
    exact ⟨rfl, Below.refl _ _⟩
  have d0 : decide ((4096 : Int) < (a0.size : Int)) = false := decide_eq_false (by omega)
  have d0' : decide (4096 < a0.size) = false := decide_eq_false (by omega)
  by_cases hA2 : 4096 < a1.size
  · have d1 : decide ((4096 : Int) < (a1.size : Int)) = true := decide_eq_true (by omega)
    go_enter Try.func5, Try.ntmps5
    go_wp2_with fail
    refine (awake_any _).mono ?_
    rintro e w' ⟨rfl, hw'⟩
    subst w'
    go_wp2
    go_ret
    exact ⟨rfl, Below.refl _ _⟩
  have d1 : decide ((4096 : Int) < (a1.size : Int)) = false := decide_eq_false (by omega)
  have d1' : decide (4096 < a1.size) = false := decide_eq_false (by omega)
  obtain ⟨N, hN⟩ := cnt_ex a0
  obtain ⟨M, hM⟩ := cnt_ex a1
  have hB := badAt_cases a0 N
  have hB2 := badAt_cases a1 M
  have hbad := fun w => bad_any a0 w w0 N hN
  have hbad2 := fun w => bad_any a1 w w1 M hM
  have HT : Box (badAt a0 N = -1 → Right a0 N) := boxed (fun c => right_of a0 N hN (by omega))
  have HT2 : Box (badAt a1 M = -1 → Right a1 M) := boxed (fun c => right_of a1 M hM (by omega))
  have hNl : N ≤ a0.size := by have := cnt_le a0 N hN; have := it_le a0 N; omega
  have hMl : M ≤ a1.size := by have := cnt_le a1 M hM; have := it_le a1 M; omega
  generalize badAt a0 N = B at *
  generalize badAt a1 M = B2 at *
  clear hN hM
  rcases hB with hB | hB
  rotate_left
  · have d2 : decide ((0 : Int) ≤ B) = true := decide_eq_true hB
    go_enter Try.func5, Try.ntmps5
    go_wp2_with fail
    refine (awake_any _).mono ?_
    rintro e w' ⟨rfl, hw'⟩
    subst w'
    go_wp2_with fail
    refine (hbad _).mono ?_
    rintro e w' ⟨rfl, hw'⟩
    subst w'
    go_wp2
    go_ret
    exact ⟨rfl, Below.refl _ _⟩
  rcases hB2 with hB2 | hB2
  rotate_left
  · have d2 : decide ((0 : Int) ≤ B2) = true := decide_eq_true hB2
    subst hB
    go_enter Try.func5, Try.ntmps5
    go_wp2_with fail
    refine (awake_any _).mono ?_
    rintro e w' ⟨rfl, hw'⟩
    subst w'
    go_wp2_with fail
    refine (hbad _).mono ?_
    rintro e w' ⟨rfl, hw'⟩
    subst w'
    go_wp2_with fail
    refine (hbad2 _).mono ?_
    rintro e w' ⟨rfl, hw'⟩
    subst w'
    go_wp2
    go_ret
    exact ⟨rfl, Below.refl _ _⟩
  replace HT := boxed (HT.out hB)
  replace HT2 := boxed (HT2.out hB2)
  subst hB
  subst hB2
  have HJ := boxed (app_join a0 a1 N M HT.out HT2.out)
  have huz := app_size a0 a1
  have hum : (a0 ++ a1).size ≤ maxLen := by unfold maxLen; omega
  have hbu := fun w => bad_b (a0 ++ a1) w hum (N + M) HJ.out.1
  have hcu := fun w => count_b (a0 ++ a1) w hum (N + M) HJ.out.1
  have hlu := fun w => lines_b (a0 ++ a1) w hum (N + M) HJ.out.1
  have hcs := fun w => count_b a0 w w0 N HT.out
  have hls := fun w => lines_b a0 w w0 N HT.out
  have hct := fun w => count_b a1 w w1 M HT2.out
  have hlt := fun w => lines_b a1 w w1 M HT2.out
  have hbd := fun w => boundary_any (a0 ++ a1) a2 w hum
  rw [HJ.out.2] at hlu
  have hL1 := lns_le a0 N
  have hL2 := lns_le a1 M
  have HV : Box (bnd (a0 ++ a1) a2 = 0 → ∃ K, K ≤ N + M ∧ a2 = (it (a0 ++ a1) K : Int)) := boxed (bnd_place (a0 ++ a1) (N + M) HJ.out.1 a2)
  have HC : Box (∀ K, K ≤ N + M → it (a0 ++ a1) K ≤ (a0 ++ a1).size ∧ Right ((a0 ++ a1).extract 0 (it (a0 ++ a1) K)) K ∧ Right ((a0 ++ a1).extract (it (a0 ++ a1) K) (a0 ++ a1).size) (N + M - K)) :=
    boxed (fun K hK => ⟨it_le _ K, cut_right (a0 ++ a1) (N + M) K HJ.out.1 hK⟩)
  clear HJ
  generalize bnd (a0 ++ a1) a2 = V at *
  generalize lns a0 N = L1 at *
  generalize lns a1 M = L2 at *
  have n1 : (((N + M : Nat) : Int) != (N : Int) + (M : Int)) = false := by simp
  have n2 : (((L1 + L2 : Nat) : Int) != (L1 : Int) + (L2 : Int)) = false := by simp
  go_enter Try.func5, Try.ntmps5
  go_wp2_with fail
  refine (awake_any _).mono ?_
  rintro e w' ⟨rfl, hw'⟩
  subst w'
  go_wp2_with fail
  refine (hbad _).mono ?_
  rintro e w' ⟨rfl, hw'⟩
  subst w'
  go_wp2_with fail
  refine (hbad2 _).mono ?_
  rintro e w' ⟨rfl, hw'⟩
  subst w'
  clear hbad hbad2
  go_wp2_with fail
  refine (hbu _).mono ?_
  rintro e x1 ⟨rfl, hb⟩
  have HB := boxed hb
  clear hb
  go_wp2_with fail
  refine (hcu _).mono ?_
  rintro e x2 ⟨rfl, hb⟩
  replace HB := boxed (HB.out.trans (hb.mono HB.out.size))
  clear hb
  go_wp2_with fail
  refine (hcs _).mono ?_
  rintro e x3 ⟨rfl, hb⟩
  replace HB := boxed (HB.out.trans (hb.mono HB.out.size))
  clear hb
  go_wp2_with fail
  refine (hct _).mono ?_
  rintro e x4 ⟨rfl, hb⟩
  replace HB := boxed (HB.out.trans (hb.mono HB.out.size))
  clear hb
  go_wp2_with fail
  refine (hlu _).mono ?_
  rintro e x5 ⟨rfl, hb⟩
  replace HB := boxed (HB.out.trans (hb.mono HB.out.size))
  clear hb
  go_wp2_with fail
  refine (hls _).mono ?_
  rintro e x6 ⟨rfl, hb⟩
  replace HB := boxed (HB.out.trans (hb.mono HB.out.size))
  clear hb
  go_wp2_with fail
  refine (hlt _).mono ?_
  rintro e x7 ⟨rfl, hb⟩
  replace HB := boxed (HB.out.trans (hb.mono HB.out.size))
  clear hb hlu hls hlt hcs hct
  go_wp2_with fail
  refine (hbd _).mono ?_
  rintro e w' ⟨rfl, hw'⟩
  subst w'
  by_cases hV : V = 0
  rotate_left
  · have d4 : (V != 0) = true := by simp [hV]
    clear hV
    go_wp2
    go_ret
    exact ⟨rfl, HB.out⟩
  have d4 : (V != 0) = false := by simp [hV]
  obtain ⟨K, hK, rfl⟩ := HV.out hV
  obtain ⟨hle, HR1, HR2⟩ := HC.out K hK
  have m0 : (a0 ++ a1).size ≤ 8192 := by omega
  have hTT : N + M ≤ 8192 := by omega
  clear huz HC HV hbu hbd hs0 hs1 d0 d0' d1 d1' hA hA2 HT HT2
  generalize a0 ++ a1 = u at *
  have hsz := hum
  generalize hcc : it u K = A at *
  have z1 := ext_size u 0 A hle
  have z2 := ext_size u A u.size (Nat.le_refl _)
  have m1 : (u.extract 0 A).size ≤ maxLen := by unfold maxLen; omega
  have m2 : (u.extract A u.size).size ≤ maxLen := by unfold maxLen; omega
  have C1 := boxed (fun d os => Calls.regrown_of (bad_b _ (Go.Sort.grow (redrawn x7 d) os) m1 K HR1))
  have C2 := boxed (fun d os => Calls.regrown_of (bad_b _ (Go.Sort.grow (redrawn x7 d) os) m2 _ HR2))
  have C3 := boxed (fun d os => Calls.regrown_of (count_b _ (Go.Sort.grow (redrawn x7 d) os) m1 K HR1))
  have C4 := boxed (fun d os => Calls.regrown_of (count_b _ (Go.Sort.grow (redrawn x7 d) os) m2 _ HR2))
  have C5 := boxed (fun d os => Calls.regrown_of (hcu (Go.Sort.grow (redrawn x7 d) os)))
  have e9 : ((K : Int) + ((N + M - K : Nat) : Int) == ((N + M : Nat) : Int)) = true := by rw [beq_iff_eq]; omega
  have s1 : ∀ wx, (Instr.slice 9 (.string u) none (some (.int .i64 (A : Int))) none).run Try.prog wx = .ok (.string (u.extract 0 A)) wx := by
    intro wx
    simp [Instr.slice, run_underlying Try.underlying9, Instr.sliceBounds, run_sliceBound, hle]
  have s2 : ∀ wx, (Instr.slice 9 (.string u) (some (.int .i64 (A : Int))) none none).run Try.prog wx = .ok (.string (u.extract A u.size)) wx := by
    intro wx
    simpa using run_slice_string_l wx 9 u Try.underlying9 .i64 (A : Int) (by omega) (by omega)
  generalize hT : N + M = T at *
  generalize hR : T - K = R at *
  have hsum : K + R ≤ 16384 := by omega
  have HW : Box (IntKind.i64.wrap ((K : Int) + (R : Int)) = (T : Int)) := boxed (by rw [IntKind.wrap_i64]; omega)
  clear hT hR n1 hL1 hL2 hcu
  clear HR1 HR2 z1 z2 m1 m2 hcc
  generalize u.extract 0 A = pp at *
  generalize u.extract A u.size = qq at *
  go_wp2_with fail
  refine wp_region_quiet_below (by kernel_rfl) (by kernel_rfl) ?_
  iterate 3 quiet_step (fail)
  quiet_step (exact C1.out _ _)
  iterate 5 quiet_step (fail)
  quiet_step (exact C2.out _ _)
  iterate 6 quiet_step (fail)
  quiet_step (exact C3.out _ _)
  iterate 3 quiet_step (fail)
  quiet_step (exact C4.out _ _)
  iterate 2 quiet_step (fail)
  quiet_step (exact C5.out _ _)
  iterate 3 quiet_step (fail)
  refine wpQuiet_nil ?_
  intro _ hw'
  obtain ⟨⟨dq, osq⟩, hw''⟩ := hw'
  subst hw''
  go_wp2_with fail
  go_ret
  exact ⟨by simp; exact HW.out, HB.out.trans ((below_regrown x7 dq osq).mono HB.out.size)⟩

/-! ### THE ROW's STEP: WRITTEN OUT: LEAVE IT -/
set_option maxRecDepth 100000 in
theorem lifted (os : Os) (started : os.Started) (H : Type) (enc : TypeId × Value → H) :
    ReturnsInHanded {} Try.checked os 5 .any (Rows.runesJoinsSpec.pre6 enc Try.prog Try.f5 Rows.runesJoinsRow.domain false) (Rows.runesJoinsSpec.post enc Try.prog Try.f5 false true false false) := by
  refine returnsInHanded_of_change (C := Try.checked) own started (by kernel_rfl) Try.func5
    (ChangeSpec.witness6 (enc := enc) (C := Try.checked) false ⟨#[], #[.string ByteArray.empty, .string ByteArray.empty, .int .i64 0], []⟩ 8 (by kernel_rfl) (by kernel_rfl) (by kernel_rfl) (by kernel_rfl)) ?_
  intro W base args ds gs before hval0 hW hcnd _
  have hval : ∀ (j : Nat) t v, Try.f5.params[j]? = some t → args[j]? = some v → Value.okWide Try.prog W .any base t v := hval0
  have hW' := hW
  obtain ⟨p, q, hA0, hV, rfl, hfz, hnd⟩ := hW
  have hA : DataW.TrodAll enc Try.prog W 0 (fun _ => true) true Try.f5.params.toList args.toList ds p := hA0
  rw [Try.params5] at hA hval
  obtain ⟨v0, vs0, d0, ds0, p0, q0, hargs, rfl, rfl, h0, r0⟩ := trodAll_cons hA
  obtain ⟨v1, vs1, d1, ds1, p1, q1, rfl, rfl, rfl, h1, r1⟩ := trodAll_cons r0
  obtain ⟨v2, vs2, d2, ds2, p2, q2, rfl, rfl, rfl, h2, r2⟩ := trodAll_cons r1
  obtain ⟨rfl, rfl, rfl⟩ := trodAll_nil r2
  obtain rfl : args = #[v0, v1, v2] := by cases args; simp_all
  obtain ⟨rfl, rfl⟩ := trodVars_none hV
  obtain ⟨a0, rfl, rfl, rfl, w0⟩ := open_string Try.underlying9 (hval 0 9 v0 rfl rfl) h0
  obtain ⟨a1, rfl, rfl, rfl, w1⟩ := open_string Try.underlying9 (hval 1 9 v1 rfl rfl) h1
  obtain ⟨a2, rfl, rfl, rfl, w2⟩ := open_int Try.underlying3 (hval 2 3 v2 rfl rfl) h2
  clear hA0 hval0
  simp only [List.append_nil] at hW'
  refine (walk a0 a1 a2 w0 w1 w2 W).mono fun e W' ⟨he, hg⟩ => ?_
  subst he
  exact ⟨_, rfl, _, _, _, [], [], [], hW', trodAll_mk1 (shut_bool Try.underlying4 _), (trodAll_cons_mk (shut_string Try.underlying9 w0) (trodAll_cons_mk (shut_string Try.underlying9 w1) (trodAll_cons_mk (shut_int Try.underlying3 w2) trodAll_mk0))), rfl, hg.frame _, fun h => by cases h⟩

theorem over : Rows.runesJoinsRow.holds Try.pinned (OpenSpec.ofChange Rows.runesJoinsSpec) :=
  OpenClaim.holds_of_wide 5 Try.f5 rfl rfl rfl rfl rfl rfl rfl ⟨rfl, rfl, rfl, rfl, rfl⟩ rfl rfl rfl rfl rfl (by kernel_rfl) Try.func5 (by kernel_rfl)
    (of_decide_eq_true (by kernel_rfl)) (by unfold Func.isWrapper; first | (rw [if_pos (by decide +kernel)]; kernel_rfl) | (rw [if_neg (by decide +kernel)]; exact ⟨rfl, rfl⟩))
    (fun os started H enc _ => lifted os started H enc)

/-- ████ THE STATEMENT ████ -/
theorem proved : Rows.RunesJoinsSaid :=
  over
#print axioms proved
end Go.Proofs.Ytifehmifgapodab.runesJoins
