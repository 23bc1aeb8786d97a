/-
  For every list of lines, every height and all settings RepageBegins answers true: a book is begun with these lines and the document's pages, or refused with Paginate's error.
  No condition besides the statement's own.
-/
import Derived.Test.YtdpjaafdpgkclaaRows
import Derived.WalkKit
import Derived.ProofKit
import Derived.OpenShut
import Derived.SizedLaws
import Derived.ShutString
import Derived.ChangeOld
import Derived.Below
import Derived.Test.YtdpjaafdpgkclaaTz
import Derived.Deep.RegionWith
import Derived.Deep.RegionHeld3
namespace Go.Proofs.Ytdpjaafdpgkclaa.repageBegins
open Go.ChangeShapes Go.WideShapes Go.ChangeAt Go.RowKit
open Go.ChangeMaps (open_string shut_string)
set_option linter.unusedVariables false
set_option linter.unusedSimpArgs false

theorem own : ownKnob Try.prog.godebug = none := by kernel_rfl
theorem laidOut : laidOutB Try.prog = true := by kernel_rfl

set_option maxRecDepth 100000 in
set_option maxHeartbeats 16000000 in
theorem walk (w : World) (ao0 : Option Addr) (n0 cap0 : Nat) (z0 : Int) (s0 : Stg) (F0 : Nat → Slt) (hn0 : (n0 ≤ maxLen ∧ n0 ≤ cap0) ∧ (ao0 = none → cap0 = 0)) (hF0 : SltsAt (fun _ => True) w ao0 n0 F0) (hs0 : I64 z0 ∧ I64 s0.t ∧ I64 s0.l ∧ I64 s0.a ∧ I64 s0.d ∧ I64 s0.z ∧ I64 s0.o ∧ I64 s0.i) :
    Calls Try.prog 4 #[rbv ao0 n0 cap0 z0 s0] w fun e w' => e = .returned (.bool true) ∧ Below w.heap.size w w' := by
  obtain ⟨R, hR⟩ : ∃ R : Bool, (R = true ↔ Rts F0 n0 0) := by
    by_cases c : Rts F0 n0 0
    · exact ⟨true, by simp [c]⟩
    · exact ⟨false, by simp [c]⟩
  have hN : (n0 : Int) ≤ 9223372036854775807 := by have := hn0.1.1; unfold maxLen at this; omega
  obtain ⟨l0, l1, l2⟩ := laid1 w (.cells (rbc ao0 n0 cap0 z0 s0) 26)
  obtain ⟨W0, hW0⟩ : ∃ W0, w.alloc (.cells (rbc ao0 n0 cap0 z0 s0) 26) = W0 := ⟨_, rfl⟩
  rw [hW0] at l0 l1 l2
  have HX : Box (∀ W, Below W0.heap.size W0 W → (W.cell? ⟨w.heap.size, 0, none⟩ = some (.slice ao0 n0 cap0) ∧ W.cell? ⟨w.heap.size, 1, none⟩ = some (.int .i64 z0) ∧ W.cell? ⟨w.heap.size, 2, none⟩ = some (.int .i64 s0.t) ∧ W.cell? ⟨w.heap.size, 3, none⟩ = some (.int .i64 s0.l) ∧ W.cell? ⟨w.heap.size, 4, none⟩ = some (.int .i64 s0.a) ∧ W.cell? ⟨w.heap.size, 5, none⟩ = some (.int .i64 s0.d) ∧ W.cell? ⟨w.heap.size, 6, none⟩ = some (.int .i64 s0.z) ∧ W.cell? ⟨w.heap.size, 7, none⟩ = some (.int .i64 s0.o) ∧ W.cell? ⟨w.heap.size, 8, none⟩ = some (.int .i64 s0.i)) ∧ Below w.heap.size w W) := boxed (fun W hb => ⟨(cells9 ((hb.block _ (by omega)).trans l0)).1, below_step l1 (Nat.le_refl _) hb⟩)
  have HS := boxed (fun W (hb : Below W0.heap.size W0 W) => hF0.below (HX.out W hb).2)
  have HW0 := boxed hW0
  have hcap := hn0.1.2
  unfold rbc at HW0
  unfold rbv
  clear l0 l1 l2 hW0 hF0
  by_cases hl : n0 ≤ 150
  · have t1 : decide ((150 : Int) < (n0 : Int)) = false := decide_eq_false (by omega)
    have t1' : decide (150 < n0) = false := decide_eq_false (by omega)
    by_cases hE : pgE z0 s0 R = 0
    · obtain ⟨hE0, hR1⟩ := ok_of hE
      have hRt := hR.1 hR1
      have hDk := dcok_of (F := F0) (n := n0) (H := z0) (g := s0) hE0 hRt (by omega)
      have HNw := boxed (fun W (hb : Below W0.heap.size W0 W) => new_ok ⟨F0, n0, s0.o, s0.i, z0⟩ s0 hDk hE0 hRt _ ao0 cap0 W (HS.out W hb) hcap)
      have HPg := boxed (fun W (hb : Below W0.heap.size W0 W) => pag_cap ⟨F0, n0, s0.o, s0.i, z0⟩ s0 hDk hE0 hRt _ ao0 cap0 W (HS.out W hb) hcap)
      have HRp := boxed (fun W (hb : Below W0.heap.size W0 W) => refpag_any ⟨F0, n0, s0.o, s0.i, z0⟩ s0 hDk _ ao0 cap0 W (HS.out W hb))
      simp only at HNw HPg HRp
      unfold Stg.val at HNw HPg HRp
      clear hR hE hE0 hR1 hRt hDk hs0 hn0
      go_enter Try.func4, Try.ntmps4
      go_upto_region 1 with fail
      rw [HW0.out]
      go_wp2_with fail
      refine (awake_any _).mono ?_
      rintro e w1 ⟨rfl, hb1⟩
      have HB1 := boxed hb1
      obtain ⟨⟨x0, x1, x2, x3, x4, x5, x6, x7, x8⟩, -⟩ := HX.out w1 hb1
      clear hb1
      go_wp2_with fail
      refine (HNw.out _ HB1.out).mono ?_
      rintro e w2 ⟨p, ao, cap, so, sc, J, rfl, hBk, hb2⟩
      have HB2 := boxed (below_step HB1.out (Nat.le_refl _) hb2)
      have HBk := boxed hBk
      clear x0 x1 x2 x3 x4 x5 x6 x7 x8 hb2 hBk HNw
      obtain ⟨⟨x0, x1, x2, x3, x4, x5, x6, x7, x8⟩, -⟩ := HX.out w2 HB2.out
      go_wp2_with fail
      refine (HPg.out _ HB2.out).mono ?_
      rintro e w3 ⟨J3, so3, sc3, rfl, -, -, hb3⟩
      have HB3 := boxed (below_step HB2.out (Nat.le_refl _) hb3)
      have HBk3 := boxed (HBk.out.below hb3)
      clear x0 x1 x2 x3 x4 x5 x6 x7 x8 hb3 HPg HBk
      have HD : Box (Below w3.heap.size w3 w3.drew) := boxed (Below.refl _ _).drew
      have HDB := boxed (below_step HB3.out (Nat.le_refl _) HD.out)
      have HDk := boxed (HBk3.out.below HD.out)
      have hJ := HBk3.out.jle
      have hpgs := boxed HBk3.out.pgs
      have hJn : J ≤ n0 := hJ
      clear hJ
      go_wp2_with fail
      go_region_held3 (fun W => W.cell? ⟨w.heap.size, 0, none⟩ = some (.slice ao0 n0 cap0) ∧ W.cell? ⟨w.heap.size, 1, none⟩ = some (.int .i64 z0) ∧ W.cell? ⟨w.heap.size, 2, none⟩ = some (.int .i64 s0.t) ∧ W.cell? ⟨w.heap.size, 3, none⟩ = some (.int .i64 s0.l) ∧ W.cell? ⟨w.heap.size, 4, none⟩ = some (.int .i64 s0.a) ∧ W.cell? ⟨w.heap.size, 5, none⟩ = some (.int .i64 s0.d) ∧ W.cell? ⟨w.heap.size, 6, none⟩ = some (.int .i64 s0.z) ∧ W.cell? ⟨w.heap.size, 7, none⟩ = some (.int .i64 s0.o) ∧ W.cell? ⟨w.heap.size, 8, none⟩ = some (.int .i64 s0.i))
        (first | with_reducible exact (HX.out _ HDB.out).1 | with_reducible exact (HX.out _ HB4.out).1 | with_reducible exact (HX.out _ HB5.out).1 | with_reducible exact (HX.out _ HB6.out).1 | with_reducible exact (HX.out _ HB7.out).1 | with_reducible exact (HX.out _ HB8.out).1)
        (first
        | (go_at_call 12; refine (starts_any HDk.out).mono ?_; rintro e w4 ⟨a4, k4, rfl, ho4, hb4⟩; have HB4 := boxed (below_step HDB.out (Nat.le_refl _) hb4); have HK4 := boxed (HDk.out.below hb4); have HO4 := boxed ho4; clear ho4 hb4)
        | (go_at_call 13; refine (HRp.out _ HB4.out).mono ?_; rintro e w5 ⟨J5, a5', k5, rfl, hP5, hn5, hb5⟩; obtain rfl := Dc.pgs_one _ hP5 hpgs.out; have HB5 := boxed (below_step HB4.out (Nat.le_refl _) hb5); have HK5 := boxed (HK4.out.below hb5); have HO5 := boxed (owns_below HO4.out hb5); have HN5 := boxed hn5; clear hP5 hn5 hb5)
        | (go_at_call 11; refine (same_yes _ _ a4 a5' _ k4 k5 _ (Dc.its_len _ _) w5 (own_nat HO5.out (Dc.its_len _ _)) HN5.out (by omega) (its_small HK5.out)).mono ?_; rintro e w6 ⟨rfl, hb6⟩; have HB6 := boxed (below_step HB5.out (Nat.le_refl _) hb6); have HK6 := boxed (HK5.out.below hb6); clear hb6)
        | (go_at_call 15; refine (slots_any HK6.out).mono ?_; rintro e w7 ⟨a7', k7, rfl, ho7, hb7⟩; have HB7 := boxed (below_step HB6.out (Nat.le_refl _) hb7); have HO7 := boxed (own_slts ho7 HK6.out.i64); clear ho7 hb7)
        | (go_at_call 14; refine (same13_yes _ _ a7' ao0 n0 k7 cap0 F0 w7 HO7.out (HS.out _ HB7.out) (by omega)).mono ?_; rintro e w8 ⟨rfl, hb8⟩; have HB8 := boxed (below_step HB7.out (Nat.le_refl _) hb8); clear hb8))
      all_goals
        have HF := boxed (HX.out w8 HB8.out).2
        go_wp2_with fail
        go_ret
        exact ⟨rfl, HF.out⟩
    · have HNw := boxed (fun W (hb : Below W0.heap.size W0 W) => new_no z0 s0 _ ao0 n0 cap0 F0 R hR hE W (HS.out W hb) (by omega) hcap)
      have HPg := boxed (fun W (hb : Below W0.heap.size W0 W) => pag_no z0 s0 _ ao0 n0 cap0 F0 R hR hE W (HS.out W hb) (by omega) hcap)
      unfold Stg.val at HNw HPg
      have t2 : (pgE z0 s0 R == 0) = false := by rw [beq_eq_false_iff_ne]; exact hE
      have t3 : (pgE z0 s0 R != 0) = true := by rw [bne_iff_ne]; exact hE
      generalize pgE z0 s0 R = E at *
      clear hR hE hs0 hn0
      go_enter Try.func4, Try.ntmps4
      go_upto_region 1 with fail
      rw [HW0.out]
      go_wp2_with fail
      refine (awake_any _).mono ?_
      rintro e w1 ⟨rfl, hb1⟩
      have HB1 := boxed hb1
      obtain ⟨⟨x0, x1, x2, x3, x4, x5, x6, x7, x8⟩, -⟩ := HX.out w1 hb1
      clear hb1
      go_wp2_with fail
      refine (HNw.out _ HB1.out).mono ?_
      rintro e w2 ⟨rfl, hb2⟩
      have HB2 := boxed (below_step HB1.out (Nat.le_refl _) hb2)
      clear x0 x1 x2 x3 x4 x5 x6 x7 x8 hb2 HNw
      obtain ⟨⟨x0, x1, x2, x3, x4, x5, x6, x7, x8⟩, -⟩ := HX.out w2 HB2.out
      go_wp2_with fail
      refine (HPg.out _ HB2.out).mono ?_
      rintro e w3 ⟨rfl, hb3⟩
      have HB3 := boxed (below_step HB2.out (Nat.le_refl _) hb3)
      clear x0 x1 x2 x3 x4 x5 x6 x7 x8 hb3 HPg
      have hun : undef = Value.tuple #[] := rfl
      go_wp2_with fail
      go_quiet (fail)
      have HF := boxed (below_step (HX.out w3 HB3.out).2 (Nat.le_refl _) (bel_drewN _ w3 nq))
      go_wp2_with fail
      go_ret
      exact ⟨rfl, HF.out⟩
  · have t1 : decide ((150 : Int) < (n0 : Int)) = true := decide_eq_true (by omega)
    have t1' : decide (150 < n0) = true := decide_eq_true (by omega)
    go_enter Try.func4, Try.ntmps4
    go_upto_region 1 with fail
    rw [HW0.out]
    go_wp2_with fail
    refine (awake_any _).mono ?_
    rintro e w1 ⟨rfl, hb1⟩
    obtain ⟨⟨x0, -⟩, hF⟩ := HX.out w1 hb1
    have HF := boxed hF
    clear hb1 hF
    go_wp2_with fail
    go_ret
    exact ⟨rfl, HF.out⟩

set_option maxRecDepth 100000 in
theorem lifted (os : Os) (started : os.Started) (H : Type) (enc : TypeId × Value → H) :
    ReturnsInHanded {} Try.checked os 4 .any (Rows.repageBeginsSpec.pre6 enc Try.prog Try.f4 Rows.repageBeginsRow.domain false) (Rows.repageBeginsSpec.post enc Try.prog Try.f4 false true false false) := by
  refine returnsInHanded_of_change_sized (C := Try.checked) own started (by kernel_rfl) Try.func4
    (ChangeSpec.witness6 (enc := enc) (C := Try.checked) false ⟨#[], #[.agg #[.slice none 0 0, .int .i64 0, .int .i64 0, .int .i64 0, .int .i64 0, .int .i64 0, .int .i64 0, .int .i64 0, .int .i64 0]], []⟩ 8 (by kernel_rfl) (by kernel_rfl) (by kernel_rfl) (by kernel_rfl)) ?_
  intro W base args ds gs before hval0 hW hcnd hsz0 _
  have hval : ∀ (j : Nat) t v, Try.f4.params[j]? = some t → args[j]? = some v → Value.okWide Try.prog W .any base t v := hval0
  have hsz : (DataW.weightsEach Try.prog (Try.f4.params.toList ++ Rows.repageBeginsSpec.plain.varTypes Try.prog) (ds ++ gs)).all (· ≤ reachBytes) = true := hsz0
  have hW' := hW
  obtain ⟨p, q, hA0, hV, rfl, hfz, hnd⟩ := hW
  have hA : DataW.TrodAll enc Try.prog W 0 (fun _ => true) true Try.f4.params.toList args.toList ds p := hA0
  rw [Try.params4] at hA hval hsz
  obtain ⟨v0, vs0, d0, ds0, p0, q0, hargs, rfl, rfl, h0, r0⟩ := trodAll_cons hA
  obtain ⟨rfl, rfl, rfl⟩ := trodAll_nil r0
  obtain rfl : args = #[v0] := by cases args; simp_all
  obtain ⟨rfl, rfl⟩ := trodVars_none hV
  have k0 := h0
  have lt0 : ∀ x ∈ p0, x.block < W.heap.size := by obtain ⟨m, hm⟩ := k0; exact DataW.trod_lt m _ _ _ hm
  obtain ⟨ao0, n0, cap0, z0, s0, F0, rfl, hn0, hF0, hs0⟩ : ∃ (ao : Option Addr) (n cap : Nat) (z : Int) (s : Stg) (F : Nat → Slt), v0 = rbv ao n cap z s ∧ ((n ≤ maxLen ∧ n ≤ cap) ∧ (ao = none → cap = 0)) ∧ SltsAt (fun _ => True) W ao n F ∧ I64 z ∧ I64 s.t ∧ I64 s.l ∧ I64 s.a ∧ I64 s.d ∧ I64 s.z ∧ I64 s.o ∧ I64 s.i := by
    obtain ⟨fuel, hf⟩ := k0
    exact start_value hf
  clear hA0 hval0
  refine (walk W ao0 n0 cap0 z0 s0 F0 hn0 hF0 hs0).mono fun e W' ⟨he, hg⟩ => ?_
  subst he
  exact ⟨_, rfl, _, _, _, [], _, [], hW', trodAll_mk1 (shut_bool Try.underlying4 _), (trodAll_cons_mk (Below.trod laidOut (by kernel_rfl) (of_decide_eq_true (by kernel_rfl)) k0 hg lt0) trodAll_mk0), rfl, hg.frame _, fun h => by cases h⟩

theorem proved : Rows.RepageBeginsSaid :=
  OpenClaim.holds_of_wide 4 Try.f4 rfl rfl rfl rfl rfl rfl rfl ⟨rfl, rfl, rfl, rfl, rfl⟩ rfl rfl rfl rfl rfl (by kernel_rfl) Try.func4 (by kernel_rfl)
    (of_decide_eq_true (by kernel_rfl)) (by unfold Func.isWrapper; first | (rw [if_pos (by decide +kernel)]; kernel_rfl) | (rw [if_neg (by decide +kernel)]; exact ⟨rfl, rfl⟩))
    (fun os started H enc _ => lifted os started H enc)
#print axioms proved
end Go.Proofs.Ytdpjaafdpgkclaa.repageBegins
