/-
  For every text and any two places the law ParasOver answers true and leaves its arguments as they were: the paragraphs that have bytes of the part are told, or it is refused.
-/
import Derived.Test.YtholifolkimkdaaRows
import Derived.WalkKit
import Derived.ProofKit
import Derived.OpenShut
import Derived.SizedLaws
import Derived.ShutString
import Derived.ChangeOld
import Derived.Below
import Derived.Test.YtholifolkimkdaaGu
namespace Go.Proofs.Ytholifolkimkdaa.parasOver
open Go.ChangeShapes Go.WideShapes Go.ChangeAt Go.RowKit
open Go.ChangeMaps (open_string shut_string)
set_option linter.unusedVariables false
set_option linter.unusedSimpArgs false

theorem own : ownKnob Try.prog.godebug = none := by kernel_rfl
theorem laidOut : laidOutB Try.prog = true := by kernel_rfl

set_option maxRecDepth 100000 in
set_option maxHeartbeats 6000000 in
theorem walk (w : World) (a0 : ByteArray) (w0 : a0.size ≤ maxLen) (a1 : Int) (w1 : (Lit.int .i64 a1).wf = true) (a2 : Int) (w2 : (Lit.int .i64 a2).wf = true) :
    Calls Try.prog 8 #[.string a0, .int .i64 a1, .int .i64 a2] w fun e w' => e = .returned (.bool true) ∧ Below w.heap.size w w' := by
  unfold maxLen at w0
  have heq := eqlItv
  have hgd := guardItv
  obtain ⟨hlo, hhi⟩ : -9223372036854775808 ≤ a1 ∧ a1 ≤ 9223372036854775807 := wf_i64 w1
  obtain ⟨hlo2, hhi2⟩ : -9223372036854775808 ≤ a2 ∧ a2 ≤ 9223372036854775807 := wf_i64 w2
  clear w1 w2
  by_cases hbig : 3000 < a0.size
  · have t1 : decide ((3000 : Int) < (a0.size : Int)) = true := decide_eq_true (by omega)
    have t1' : decide (3000 < a0.size) = true := decide_eq_true hbig
    go_enter Try.func8, Try.ntmps8
    go_wp2_with fail
    refine (awake_any _).mono ?_
    rintro e w1 ⟨rfl, hb1⟩
    have HB1 := boxed hb1
    clear hb1
    go_wp2
    go_ret
    exact ⟨rfl, HB1.out⟩
  · have t1 : decide ((3000 : Int) < (a0.size : Int)) = false := decide_eq_false (by omega)
    have t1' : decide (3000 < a0.size) = false := decide_eq_false hbig
    have hll := ln_len a0
    have hsum := sp_sum (ln a0)
    rw [hll] at hsum
    have HSP := boxed (fun W => rspan_any a0 a1 a2 W)
    by_cases c1 : outb a0.size a1 a2 = true
    · rw [if_pos c1] at HSP
      cases hab : (a1 == a2) with
      | true =>
        go_enter Try.func8, Try.ntmps8
        go_wp2_with fail
        refine (awake_any _).mono ?_
        rintro e w1 ⟨rfl, hb1⟩
        have HB1 := boxed hb1
        clear hb1
        go_wp2_with fail
        refine (new_any a0 _ (by omega)).mono ?_
        rintro e w2 ⟨xb, ao, cap, rfl, -, hx, -, hb2⟩
        have HB2 := boxed (below_step HB1.out (Nat.le_refl _) hb2)
        have HX2 := boxed hx
        clear hb2 hx HB1
        go_wp2_with fail
        refine (over_out HX2.out a1 a2 (by rw [hsum]; exact c1)).mono ?_
        rintro e w3 ⟨rfl, hb3⟩
        have HB3 := boxed (below_step HB2.out (Nat.le_refl _) hb3)
        obtain ⟨⟨y0, y1, y2⟩, -⟩ := cells3 (heap_alloc_new w3 (.cells #[.int .i64 0, .int .i64 0, .int .i64 0] 30))
        have HB4 : Box (Below w.heap.size w (w3.alloc (.cells #[.int .i64 0, .int .i64 0, .int .i64 0] 30))) := boxed (below_step HB3.out (Nat.le_refl _) (new_below _ _))
        clear hb3 HX2 HB2
        go_wp2_with (go_at_call 24; refine (HSP.out _).mono ?_; rintro e w7 ⟨rfl, hw'⟩; subst w7)
        go_ret
        exact ⟨rfl, HB4.out⟩
      | false =>
        go_enter Try.func8, Try.ntmps8
        go_wp2_with fail
        refine (awake_any _).mono ?_
        rintro e w1 ⟨rfl, hb1⟩
        have HB1 := boxed hb1
        clear hb1
        go_wp2_with fail
        refine (new_any a0 _ (by omega)).mono ?_
        rintro e w2 ⟨xb, ao, cap, rfl, -, hx, -, hb2⟩
        have HB2 := boxed (below_step HB1.out (Nat.le_refl _) hb2)
        have HX2 := boxed hx
        clear hb2 hx HB1
        go_wp2_with fail
        refine (over_out HX2.out a1 a2 (by rw [hsum]; exact c1)).mono ?_
        rintro e w3 ⟨rfl, hb3⟩
        have HB3 := boxed (below_step HB2.out (Nat.le_refl _) hb3)
        obtain ⟨⟨y0, y1, y2⟩, -⟩ := cells3 (heap_alloc_new w3 (.cells #[.int .i64 0, .int .i64 0, .int .i64 0] 30))
        have HB4 : Box (Below w.heap.size w (w3.alloc (.cells #[.int .i64 0, .int .i64 0, .int .i64 0] 30))) := boxed (below_step HB3.out (Nat.le_refl _) (new_below _ _))
        clear hb3 HX2 HB2
        go_wp2_with (go_at_call 24; refine (HSP.out _).mono ?_; rintro e w7 ⟨rfl, hw'⟩; subst w7)
        go_ret
        exact ⟨rfl, HB4.out⟩
    · rw [if_neg c1] at HSP
      have c1' : outb a0.size a1 a2 = false := by simpa using c1
      obtain ⟨b1, b2, b3⟩ := (outb_iff _ _ _).1 c1'
      by_cases c2 : a1 = a2
      · subst c2
        go_enter Try.func8, Try.ntmps8
        go_wp2_with fail
        refine (awake_any _).mono ?_
        rintro e w1 ⟨rfl, hb1⟩
        have HB1 := boxed hb1
        clear hb1
        go_wp2_with fail
        refine (new_any a0 _ (by omega)).mono ?_
        rintro e w2 ⟨xb, ao, cap, rfl, -, hx, -, hb2⟩
        have HB2 := boxed (below_step HB1.out (Nat.le_refl _) hb2)
        have HX2 := boxed hx
        clear hb2 hx HB1
        go_wp2_with fail
        refine (over_none HX2.out a1 (by rw [hsum]; exact c1')).mono ?_
        rintro e w3 ⟨rfl, hb3⟩
        have HB3 := boxed (below_step HB2.out (Nat.le_refl _) hb3)
        obtain ⟨⟨y0, y1, y2⟩, -⟩ := cells3 (heap_alloc_new w3 (.cells #[.int .i64 0, .int .i64 0, .int .i64 0] 30))
        have HB4 : Box (Below w.heap.size w (w3.alloc (.cells #[.int .i64 0, .int .i64 0, .int .i64 0] 30))) := boxed (below_step HB3.out (Nat.le_refl _) (new_below _ _))
        clear hb3 HX2 HB2
        go_wp2_with (go_at_call 24; refine (HSP.out _).mono ?_; rintro e w7 ⟨rfl, hw'⟩; subst w7)
        go_ret
        exact ⟨rfl, HB4.out⟩
      · obtain ⟨k, rfl⟩ : ∃ k : Nat, a1 = k := ⟨a1.toNat, by omega⟩
        obtain ⟨m, rfl⟩ : ∃ m : Nat, a2 = m := ⟨a2.toNat, by omega⟩
        have z : ((k : Int) == (m : Int)) = false := by rw [beq_eq_false_iff_ne]; omega
        have z' : (k == m) = false := by rw [beq_eq_false_iff_ne]; omega
        have HF1 := boxed (fun W => rfind_any a0 k W (by omega) (by omega))
        have HF2 := boxed (fun W => rfind_any a0 (m - 1) W (by omega) (by omega))
        have hkm : k < m := by omega
        have em : (m : Int) - 1 = ((m - 1 : Nat) : Int) := by omega
        have HPQ : Box (∀ p q, Hd (sp (ln a0)) k p → Hd (sp (ln a0)) (m - 1) q → p = fnd (ln a0) k ∧ q = fnd (ln a0) (m - 1)) := boxed (fun p q h1 h2 => ⟨(hd_fnd h1 (by omega)).symm, (hd_fnd h2 (by omega)).symm⟩)
        have hspl := sp_len (ln a0)
        rw [hll] at hspl
        obtain ⟨m', hm'⟩ : ∃ m', m - 1 = m' := ⟨_, rfl⟩
        rw [hm'] at HF2 HPQ em
        clear c1 c1' c2
        go_enter Try.func8, Try.ntmps8
        go_wp2_with fail
        refine (awake_any _).mono ?_
        rintro e w1 ⟨rfl, hb1⟩
        have HB1 := boxed hb1
        clear hb1
        go_wp2_with fail
        refine (new_any a0 _ (by omega)).mono ?_
        rintro e w2 ⟨xb, ao, cap, rfl, -, hx, -, hb2⟩
        have HB2 := boxed (below_step HB1.out (Nat.le_refl _) hb2)
        have HX2 := boxed hx
        clear hb2 hx HB1
        go_wp2_with fail
        have hov := over_some HX2.out k m hkm (by rw [hsum]; omega)
        rw [hm'] at hov
        refine hov.mono ?_
        rintro e w3 ⟨p, q, rfl, hpq, hq, hp1, hq1, hb3⟩
        obtain ⟨e1, e2⟩ := HPQ.out p q hp1 hq1
        rw [← e1] at HF1
        rw [← e2] at HF2
        obtain ⟨D, hD⟩ : ∃ D, q + 1 - p = D := ⟨_, rfl⟩
        have eD : (q : Int) - (p : Int) + 1 = (D : Nat) := by omega
        have hDb : D ≤ 65536 := by omega
        have hpb : p ≤ 65536 := by omega
        have hqb : q ≤ 65536 := by omega
        rw [hD]
        have HB3 := boxed (below_step HB2.out (Nat.le_refl _) hb3)
        have HX3 := boxed (HX2.out.below hb3)
        replace hD := boxed hD
        clear hb3 HX2 HB2 hov HPQ hp1 hq1 e1 e2 hq
        obtain ⟨w4, hw4⟩ : ∃ w4, w3.alloc (.cells #[.int .i64 (p : Nat), .int .i64 (D : Nat), .int .i64 (D : Nat)] 30) = w4 := ⟨_, rfl⟩
        have hb4 : Below w3.heap.size w3 w4 := by rw [← hw4]; exact new_below _ _
        have h4 : w4.heap[w3.heap.size]? = some (.cells #[.int .i64 (p : Nat), .int .i64 (D : Nat), .int .i64 (D : Nat)] 30 (0, 0)) := by rw [← hw4]; exact heap_alloc_new w3 _
        obtain ⟨⟨y0, y1, y2⟩, -⟩ := cells3 h4
        have HB4 := boxed (below_step HB3.out (Nat.le_refl _) hb4)
        have HIS := boxed (is_any (HX3.out.below hb4))
        clear hb4 h4 HB3 HX3
        go_wp2_with (first | (go_at_call 24; refine (HSP.out _).mono ?_; rintro e w7 ⟨rfl, hw'⟩; subst w7) | (go_at_call_of 19 (Value.int IntKind.i64 (k : Int)); refine (HF1.out _).mono ?_; rintro e w7 ⟨rfl, hw'⟩; subst w7) | (go_at_call 19; refine (HF2.out _).mono ?_; rintro e w7 ⟨rfl, hw'⟩; subst w7))
        refine HIS.out.mono ?_
        rintro e w5 ⟨rfl, hb5⟩
        have HB5 := boxed (below_step HB4.out (Nat.le_refl _) hb5)
        clear hb5 HIS
        go_wp2
        go_ret
        exact ⟨rfl, HB5.out⟩

set_option maxRecDepth 100000 in
theorem lifted (os : Os) (started : os.Started) (H : Type) (enc : TypeId × Value → H) :
    ReturnsInHanded {} Try.checked os 8 .any (Rows.parasOverSpec.pre6 enc Try.prog Try.f8 Rows.parasOverRow.domain false) (Rows.parasOverSpec.post enc Try.prog Try.f8 false true false false) := by
  refine returnsInHanded_of_change_sized (C := Try.checked) own started (by kernel_rfl) Try.func8
    (ChangeSpec.witness6 (enc := enc) (C := Try.checked) false ⟨#[], #[.string ByteArray.empty, .int .i64 0, .int .i64 0], []⟩ 8 (by kernel_rfl) (by kernel_rfl) (by kernel_rfl) (by kernel_rfl)) ?_
  intro W base args ds gs before hval0 hW hcnd hsz0 _
  have hval : ∀ (j : Nat) t v, Try.f8.params[j]? = some t → args[j]? = some v → Value.okWide Try.prog W .any base t v := hval0
  have hsz : (DataW.weightsEach Try.prog (Try.f8.params.toList ++ Rows.parasOverSpec.plain.varTypes Try.prog) (ds ++ gs)).all (· ≤ reachBytes) = true := hsz0
  have hW' := hW
  obtain ⟨p, q, hA0, hV, rfl, hfz, hnd⟩ := hW
  have hA : DataW.TrodAll enc Try.prog W 0 (fun _ => true) true Try.f8.params.toList args.toList ds p := hA0
  rw [Try.params8] at hA hval hsz
  obtain ⟨v0, vs0, d0, ds0, p0, q0, hargs, rfl, rfl, h0, r0⟩ := trodAll_cons hA
  obtain ⟨v1, vs1, d1, ds1, p1, q1, rfl, rfl, rfl, h1, r1⟩ := trodAll_cons r0
  obtain ⟨v2, vs2, d2, ds2, p2, q2, rfl, rfl, rfl, h2, r2⟩ := trodAll_cons r1
  obtain ⟨rfl, rfl, rfl⟩ := trodAll_nil r2
  obtain rfl : args = #[v0, v1, v2] := by cases args; simp_all
  obtain ⟨rfl, rfl⟩ := trodVars_none hV
  obtain ⟨a0, rfl, rfl, rfl, w0⟩ := open_string Try.underlying9 (hval 0 9 v0 rfl rfl) h0
  obtain ⟨a1, rfl, rfl, rfl, w1⟩ := open_int Try.underlying3 (hval 1 3 v1 rfl rfl) h1
  obtain ⟨a2, rfl, rfl, rfl, w2⟩ := open_int Try.underlying3 (hval 2 3 v2 rfl rfl) h2
  clear hA0 hval0
  refine (walk W a0 w0 a1 w1 a2 w2).mono fun e W' ⟨he, hg⟩ => ?_
  subst he
  exact ⟨_, rfl, _, _, _, [], _, [], hW', trodAll_mk1 (shut_bool Try.underlying4 _), (trodAll_cons_mk (shut_string Try.underlying9 w0) (trodAll_cons_mk (shut_int Try.underlying3 w1) (trodAll_cons_mk (shut_int Try.underlying3 w2) trodAll_mk0))), rfl, hg.frame _, fun h => by cases h⟩

theorem proved : Rows.ParasOverSaid :=
  OpenClaim.holds_of_wide 8 Try.f8 rfl rfl rfl rfl rfl rfl rfl ⟨rfl, rfl, rfl, rfl, rfl⟩ rfl rfl rfl rfl rfl (by kernel_rfl) Try.func8 (by kernel_rfl)
    (of_decide_eq_true (by kernel_rfl)) (by unfold Func.isWrapper; first | (rw [if_pos (by decide +kernel)]; kernel_rfl) | (rw [if_neg (by decide +kernel)]; exact ⟨rfl, rfl⟩))
    (fun os started H enc _ => lifted os started H enc)
#print axioms proved
end Go.Proofs.Ytholifolkimkdaa.parasOver
