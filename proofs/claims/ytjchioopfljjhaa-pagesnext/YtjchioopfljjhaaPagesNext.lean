/-
  For every list of lines, every line to begin with and height, and all settings PagesNext answers true: where these may be, the program's Next is the document's.
  No condition besides the statement's own.
-/
import Derived.Test.YtjchioopfljjhaaRows
import Derived.WalkKit
import Derived.ProofKit
import Derived.OpenShut
import Derived.SizedLaws
import Derived.ShutString
import Derived.ChangeOld
import Derived.Below
import Derived.Test.YtjchioopfljjhaaHj
import Derived.Test.YtjchioopfljjhaaHk
import Derived.Test.YtjchioopfljjhaaHl
import Derived.Test.YtjchioopfljjhaaHi
namespace Go.Proofs.Ytjchioopfljjhaa.pagesNext
open Go.ChangeShapes Go.WideShapes Go.ChangeAt Go.RowKit
open Go.ChangeMaps (open_string shut_string)
set_option linter.unusedVariables false
set_option linter.unusedSimpArgs false

theorem own : ownKnob Try.prog.godebug = none := by kernel_rfl
theorem laidOut : laidOutB Try.prog = true := by kernel_rfl

set_option maxRecDepth 100000 in
set_option maxHeartbeats 2000000 in
theorem walk (w : World) (ao0 : Option Addr) (n0 cap0 : Nat) (F0 : Nat → Slt) (hn0 : n0 ≤ maxLen ∧ n0 ≤ cap0) (hF0 : SltsAt (fun _ => True) w ao0 n0 F0) (x1 y1 : Int) (hx1 : I64 x1 ∧ I64 y1) (s2 : Stg) (hs2 : I64 s2.t ∧ I64 s2.l ∧ I64 s2.a ∧ I64 s2.d ∧ I64 s2.z ∧ I64 s2.o ∧ I64 s2.i) :
    Calls Try.prog 4 #[.slice ao0 n0 cap0, .agg #[.int .i64 x1, .int .i64 y1], s2.val] w fun e w' => e = .returned (.bool true) ∧ Below w.heap.size w w' := by
  obtain ⟨R, hR⟩ : ∃ R : Bool, (R = true ↔ Rts F0 n0 0) := by
    by_cases c : Rts F0 n0 0
    · exact ⟨true, by simp [c]⟩
    · exact ⟨false, by simp [c]⟩
  have hN : (n0 : Int) ≤ 9223372036854775807 := by have := hn0.1; unfold maxLen at this; omega
  obtain ⟨W0, hW0⟩ : ∃ W0, (w.alloc (.cells #[.int .i64 x1, .int .i64 y1] 37)).alloc (.cells #[.int .i64 s2.t, .int .i64 s2.l, .int .i64 s2.a, .int .i64 s2.d, .int .i64 s2.z, .int .i64 s2.o, .int .i64 s2.i] 24) = W0 := ⟨_, rfl⟩
  have hst := stc_new (w.alloc (.cells #[.int .i64 x1, .int .i64 y1] 37)) s2
  have HQ := laid2 w (.cells #[.int .i64 x1, .int .i64 y1] 37) (.cells #[.int .i64 s2.t, .int .i64 s2.l, .int .i64 s2.a, .int .i64 s2.d, .int .i64 s2.z, .int .i64 s2.o, .int .i64 s2.i] 24)
  rw [hW0] at hst HQ
  have hz1 : (w.alloc (.cells #[.int .i64 x1, .int .i64 y1] 37)).heap.size = w.heap.size + 1 := by simp
  rw [hz1] at hst
  obtain ⟨f0, -, hB0, hz0⟩ := HQ
  have ca : W0.cell? ⟨w.heap.size, 0, none⟩ = some (.int .i64 x1) ∧ W0.cell? ⟨w.heap.size, 1, none⟩ = some (.int .i64 y1) := ⟨by simp [World.cell?, f0], by simp [World.cell?, f0]⟩
  have HS := boxed hst
  have HA := boxed ca
  have HB0 := boxed hB0
  have HW0 := boxed hW0
  have HH := boxed (hF0.below hB0)
  have HBx : Box (∀ W, Below W0.heap.size W0 W → Below w.heap.size w W) := boxed (fun W hb => below_step HB0.out (Nat.le_refl _) hb)
  have HT := boxed (fun W (hb : Below W0.heap.size W0 W) => tried_any _ ao0 n0 cap0 F0 R hR y1 s2 W (HH.out.below hb) hn0.1)
  have HTi := boxed (trB_iff n0 R y1 s2)
  clear hst hB0 hW0 ca f0 hz1 hz0
  by_cases hc : trB n0 R y1 s2 = true ∧ 0 ≤ x1 ∧ x1 ≤ (n0 : Int)
  · obtain ⟨ht, h0, h1⟩ := hc
    obtain ⟨hl2, hRt0, hE⟩ := HTi.out.1 ht
    have hRt := hR.1 hRt0
    obtain ⟨a, rfl⟩ : ∃ a : Nat, x1 = (a : Int) := ⟨x1.toNat, by omega⟩
    have hD := dcok_of (F := F0) (n := n0) (H := y1) (g := s2) hE hRt hl2
    have HP : Box (∀ W, Below W0.heap.size W0 W → Calls Try.prog 18 #[.slice ao0 n0 cap0, .int .i64 (a : Nat), .int .i64 y1, s2.val] W fun e w' => e = .returned (.int .i64 ((Dc.mk F0 n0 s2.o s2.i y1).nx a : Nat)) ∧ Below W.heap.size W w') := boxed (fun W hb => next_any _ s2 hD _ ao0 cap0 a W (HH.out.below hb) (by simp only; omega))
    have HQ : Box (∀ W, Below W0.heap.size W0 W → Calls Try.prog 19 #[.slice ao0 n0 cap0, .int .i64 (a : Nat), .int .i64 y1, s2.val] W fun e w' => e = .returned (.int .i64 ((Dc.mk F0 n0 s2.o s2.i y1).nx a : Nat)) ∧ Below W.heap.size W w') := boxed (fun W hb => refnext_any _ s2 hD _ ao0 cap0 a W (HH.out.below hb) (by simp only; omega))
    generalize (Dc.mk F0 n0 s2.o s2.i y1).nx a = V at *
    rw [ht] at HT
    have t1 : decide ((a : Int) < 0) = false := decide_eq_false (by omega)
    have t2 : decide ((n0 : Int) < (a : Int)) = false := decide_eq_false (by omega)
    have t3 : decide (n0 < a) = false := decide_eq_false (by omega)
    clear hE hRt hD hF0 hs2 hn0 HH hR HTi h0 h1 ht hx1 hRt0
    unfold Stg.val at *
    go_enter Try.func4, Try.ntmps4
    go_upto_region 1 with fail
    rw [HW0.out]
    go_wp2_with fail
    refine (awake_any _).mono ?_
    rintro e w1 ⟨rfl, hb1⟩
    have HB1 := boxed hb1
    have hd0 := hold hb1 HA.out.1
    have hd1 := hold hb1 HA.out.2
    clear hb1
    go_wp2_with fail
    go_quiet (fail)
    obtain ⟨w2, hw2⟩ : ∃ w2, w1.drewN nq = w2 := ⟨_, rfl⟩
    have HB2 : Box (Below W0.heap.size W0 w2) := boxed (by rw [← hw2]; exact HB1.out.trans (bel_drewN _ _ _))
    rw [hw2]
    clear hw2 hd0 hd1
    obtain ⟨c0, c1, c2, c3, c4, c5, c6⟩ := HS.out.below HB2.out
    go_wp2_with fail
    refine (HT.out _ HB2.out).mono ?_
    rintro e w3 ⟨rfl, hb3⟩
    have HB3 := boxed (below_step HB2.out (Nat.le_refl _) hb3)
    clear hb3 c0 c1 c2 c3 c4 c5 c6
    obtain ⟨c0, c1, c2, c3, c4, c5, c6⟩ := HS.out.below HB3.out
    have v0 := cell_regrown c0
    have v1 := cell_regrown c1
    have v2 := cell_regrown c2
    have v3 := cell_regrown c3
    have v4 := cell_regrown c4
    have v5 := cell_regrown c5
    have v6 := cell_regrown c6
    have CP : Box (∀ d os, Calls Try.prog 18 #[.slice ao0 n0 cap0, .int .i64 (a : Nat), .int .i64 y1, .agg #[.int .i64 s2.t, .int .i64 s2.l, .int .i64 s2.a, .int .i64 s2.d, .int .i64 s2.z, .int .i64 s2.o, .int .i64 s2.i]] (Go.Sort.grow (redrawn w3 d) os) fun e w'' => e = .returned (.int .i64 (V : Nat)) ∧ ∃ p : Regrown, w'' = Go.Sort.grow (redrawn w3 p.d) p.os) := boxed (fun d os => Calls.regrown_of (HP.out _ (below_step HB3.out (Nat.le_refl _) (below_regrown w3 d os))))
    have CQ : Box (∀ d os, Calls Try.prog 19 #[.slice ao0 n0 cap0, .int .i64 (a : Nat), .int .i64 y1, .agg #[.int .i64 s2.t, .int .i64 s2.l, .int .i64 s2.a, .int .i64 s2.d, .int .i64 s2.z, .int .i64 s2.o, .int .i64 s2.i]] (Go.Sort.grow (redrawn w3 d) os) fun e w'' => e = .returned (.int .i64 (V : Nat)) ∧ ∃ p : Regrown, w'' = Go.Sort.grow (redrawn w3 p.d) p.os) := boxed (fun d os => Calls.regrown_of (HQ.out _ (below_step HB3.out (Nat.le_refl _) (below_regrown w3 d os))))
    clear c0 c1 c2 c3 c4 c5 c6 HP HQ HT
    go_wp2_with fail
    refine wp_region_quiet_below (by kernel_rfl) (by kernel_rfl) ?_
    repeat (go_big_quiet_step (first | (go_at_call 18; exact CP.out _ _) | (go_at_call 19; exact CQ.out _ _)))
    refine wpQuiet_nil ?_
    intro _ hw'
    obtain ⟨⟨dq, osq⟩, hw''⟩ := hw'
    subst hw''
    have HB6 := boxed (HBx.out _ (below_step HB3.out (Nat.le_refl _) (below_regrown w3 dq osq)))
    clear CP CQ v0 v1 v2 v3 v4 v5 v6
    generalize Go.Sort.grow (redrawn w3 dq) osq = w5 at *
    go_wp2_with fail
    go_ret
    exact ⟨ret_bool (by simp), HB6.out⟩
  · generalize hTv : trB n0 R y1 s2 = T at *
    have HBad : Box (T = true → decide (x1 < 0) = false → decide ((n0 : Int) < x1) = true) := boxed (fun q1 q2 => by
      have := of_decide_eq_false q2
      exact decide_eq_true (by
        by_cases u : (n0 : Int) < x1
        · exact u
        · exact absurd ⟨q1, by omega, by omega⟩ hc))
    clear hF0 hs2 hn0 HH hR HTi hTv hc hx1
    unfold Stg.val at *
    go_enter Try.func4, Try.ntmps4
    go_upto_region 1 with fail
    rw [HW0.out]
    go_wp2_with fail
    refine (awake_any _).mono ?_
    rintro e w1 ⟨rfl, hb1⟩
    have HB1 := boxed hb1
    have hd0 := hold hb1 HA.out.1
    have hd1 := hold hb1 HA.out.2
    clear hb1
    go_wp2_with fail
    go_quiet (fail)
    obtain ⟨w2, hw2⟩ : ∃ w2, w1.drewN nq = w2 := ⟨_, rfl⟩
    have HB2 : Box (Below W0.heap.size W0 w2) := boxed (by rw [← hw2]; exact HB1.out.trans (bel_drewN _ _ _))
    rw [hw2]
    clear hw2 hd0 hd1
    obtain ⟨c0, c1, c2, c3, c4, c5, c6⟩ := HS.out.below HB2.out
    go_wp2_with fail
    refine (HT.out _ HB2.out).mono ?_
    rintro e w3 ⟨rfl, hb3⟩
    have HB3 := boxed (HBx.out _ (below_step HB2.out (Nat.le_refl _) hb3))
    clear hb3 c0 c1 c2 c3 c4 c5 c6 HT
    cases T with
    | false =>
      clear HBad
      go_wp2_with fail
      go_ret
      exact ⟨rfl, HB3.out⟩
    | true =>
      by_cases u : x1 < 0
      · have t1 : decide (x1 < 0) = true := decide_eq_true u
        clear HBad
        go_wp2_with fail
        go_ret
        exact ⟨rfl, HB3.out⟩
      · have t1 : decide (x1 < 0) = false := decide_eq_false u
        have t2 := HBad.out rfl t1
        clear HBad
        go_wp2_with fail
        go_ret
        exact ⟨rfl, HB3.out⟩

set_option maxRecDepth 100000 in
theorem lifted (os : Os) (started : os.Started) (H : Type) (enc : TypeId × Value → H) :
    ReturnsInHanded {} Try.checked os 4 .any (Rows.pagesNextSpec.pre6 enc Try.prog Try.f4 Rows.pagesNextRow.domain false) (Rows.pagesNextSpec.post enc Try.prog Try.f4 false true false false) := by
  refine returnsInHanded_of_change_sized (C := Try.checked) own started (by kernel_rfl) Try.func4
    (ChangeSpec.witness6 (enc := enc) (C := Try.checked) false ⟨#[], #[.slice none 0 0, .agg #[.int .i64 0, .int .i64 0], .agg #[.int .i64 0, .int .i64 0, .int .i64 0, .int .i64 0, .int .i64 0, .int .i64 0, .int .i64 0]], []⟩ 8 (by kernel_rfl) (by kernel_rfl) (by kernel_rfl) (by kernel_rfl)) ?_
  intro W base args ds gs before hval0 hW hcnd hsz0 _
  have hval : ∀ (j : Nat) t v, Try.f4.params[j]? = some t → args[j]? = some v → Value.okWide Try.prog W .any base t v := hval0
  have hsz : (DataW.weightsEach Try.prog (Try.f4.params.toList ++ Rows.pagesNextSpec.plain.varTypes Try.prog) (ds ++ gs)).all (· ≤ reachBytes) = true := hsz0
  have hW' := hW
  obtain ⟨p, q, hA0, hV, rfl, hfz, hnd⟩ := hW
  have hA : DataW.TrodAll enc Try.prog W 0 (fun _ => true) true Try.f4.params.toList args.toList ds p := hA0
  rw [Try.params4] at hA hval hsz
  obtain ⟨v0, vs0, d0, ds0, p0, q0, hargs, rfl, rfl, h0, r0⟩ := trodAll_cons hA
  obtain ⟨v1, vs1, d1, ds1, p1, q1, rfl, rfl, rfl, h1, r1⟩ := trodAll_cons r0
  obtain ⟨v2, vs2, d2, ds2, p2, q2, rfl, rfl, rfl, h2, r2⟩ := trodAll_cons r1
  obtain ⟨rfl, rfl, rfl⟩ := trodAll_nil r2
  obtain rfl : args = #[v0, v1, v2] := by cases args; simp_all
  obtain ⟨rfl, rfl⟩ := trodVars_none hV
  obtain ⟨ao0, n0, cap0, rfl⟩ := okWide_slice Try.underlying22 (hval 0 22 v0 rfl rfl)
  have k0 := h0
  have lt0 : ∀ x ∈ p0, x.block < W.heap.size := by obtain ⟨m, hm⟩ := k0; exact DataW.trod_lt m _ _ _ hm
  obtain ⟨hn0, F0, hF0⟩ : (n0 ≤ maxLen ∧ n0 ≤ cap0) ∧ ∃ F, SltsAt (fun _ => True) W ao0 n0 F := by
    obtain ⟨fuel, hf⟩ := k0
    exact open_slots hf
  have k1 := h1
  have lt1 : ∀ x ∈ p1, x.block < W.heap.size := by obtain ⟨m, hm⟩ := k1; exact DataW.trod_lt m _ _ _ hm
  obtain ⟨x1, y1, rfl, hx1⟩ : ∃ x y : Int, v1 = .agg #[.int .i64 x, .int .i64 y] ∧ (-9223372036854775808 ≤ x ∧ x ≤ 9223372036854775807) ∧ -9223372036854775808 ≤ y ∧ y ≤ 9223372036854775807 := by
    obtain ⟨fuel, hf⟩ := k1
    exact pair_value Try.underlying37 (by kernel_rfl) hf
  have k2 := h2
  have lt2 : ∀ x ∈ p2, x.block < W.heap.size := by obtain ⟨m, hm⟩ := k2; exact DataW.trod_lt m _ _ _ hm
  obtain ⟨s2, rfl, hs2⟩ : ∃ x : Stg, v2 = x.val ∧ I64 x.t ∧ I64 x.l ∧ I64 x.a ∧ I64 x.d ∧ I64 x.z ∧ I64 x.o ∧ I64 x.i := by
    obtain ⟨fuel, hf⟩ := k2
    exact sett_value hf
  clear hA0 hval0
  refine (walk W ao0 n0 cap0 F0 hn0 hF0 x1 y1 hx1 s2 hs2).mono fun e W' ⟨he, hg⟩ => ?_
  subst he
  exact ⟨_, rfl, _, _, _, [], _, [], hW', trodAll_mk1 (shut_bool Try.underlying4 _), (trodAll_cons_mk (Below.trod laidOut (by kernel_rfl) (of_decide_eq_true (by kernel_rfl)) k0 hg lt0) (trodAll_cons_mk (Below.trod laidOut (by kernel_rfl) (of_decide_eq_true (by kernel_rfl)) k1 hg lt1) (trodAll_cons_mk (Below.trod laidOut (by kernel_rfl) (of_decide_eq_true (by kernel_rfl)) k2 hg lt2) trodAll_mk0))), rfl, hg.frame _, fun h => by cases h⟩

theorem proved : Rows.PagesNextSaid :=
  OpenClaim.holds_of_wide 4 Try.f4 rfl rfl rfl rfl rfl rfl rfl ⟨rfl, rfl, rfl, rfl, rfl⟩ rfl rfl rfl rfl rfl (by kernel_rfl) Try.func4 (by kernel_rfl)
    (of_decide_eq_true (by kernel_rfl)) (by unfold Func.isWrapper; first | (rw [if_pos (by decide +kernel)]; kernel_rfl) | (rw [if_neg (by decide +kernel)]; exact ⟨rfl, rfl⟩))
    (fun os started H enc _ => lifted os started H enc)
#print axioms proved
end Go.Proofs.Ytjchioopfljjhaa.pagesNext
