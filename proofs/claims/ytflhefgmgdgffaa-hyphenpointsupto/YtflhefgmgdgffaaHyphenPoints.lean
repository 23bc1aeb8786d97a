/-
  'regletlaw17.HyphenPoints': the program's Points and the document's, by their contracts: both are told by what the greatest levels say.
-/
import Derived.Test.YtflhefgmgdgffaaRows
import Derived.WalkKit
import Derived.ProofKit
import Derived.OpenShut
import Derived.JoinedCond
import Derived.ChangeOld
import Derived.Below
import Derived.Test.YtflhefgmgdgffaaHyz
import Derived.Deep.RegionHeld3
namespace Go.Proofs.Ytflhefgmgdgffaa.hyphenPoints
open Go.ChangeShapes Go.WideShapes Go.ChangeAt Go.RowKit
open Go.ChangeMaps (open_string shut_string)
set_option linter.unusedVariables false
set_option linter.unusedSimpArgs false

theorem own : ownKnob Try.prog.godebug = none := by kernel_rfl
theorem laidOut : laidOutB Try.prog = true := by kernel_rfl

set_option maxRecDepth 100000 in
set_option maxHeartbeats 2000000 in
theorem walk (w : World) (ao0 : Option Addr) (n0 cap0 : Nat) (bo0 : Option Addr) (m0 cbp0 : Nat) (l0 r0 : Int) (S0 T0 : Nat → ByteArray) (hn0 : n0 ≤ maxLen ∧ m0 ≤ maxLen) (hS0 : StrsAt w ao0 n0 S0) (hT0 : StrsAt w bo0 m0 T0) (hl0 : I64 l0 ∧ I64 r0) (a1 : ByteArray) (w1 : a1.size ≤ maxLen) (z1 : a1.size ≤ 1048576) :
    Calls Try.prog 4 #[listsV ao0 n0 cap0 bo0 m0 cbp0 l0 r0, .string a1] w fun e w' => e = .returned (.bool true) ∧ Below w.heap.size w w' := by
  unfold listsV
  have hn2 := hn0
  unfold maxLen at hn2
  have l1 := laid1 w (.cells #[.slice ao0 n0 cap0, .slice bo0 m0 cbp0, .int .i64 l0, .int .i64 r0] 24)
  obtain ⟨W1, hW1⟩ : ∃ W1, w.alloc (.cells #[.slice ao0 n0 cap0, .slice bo0 m0 cbp0, .int .i64 l0, .int .i64 r0] 24) = W1 := ⟨_, rfl⟩
  rw [hW1] at l1
  have HB1 := boxed l1.2.1
  have HX1 := boxed l1.1
  have HS := boxed hS0
  have HTT := boxed hT0
  have HA := boxed (awake_any W1)
  obtain ⟨xb, hxb⟩ : ∃ xb, w.heap.size = xb := ⟨_, rfl⟩
  rw [hxb] at HX1
  replace hW1 := boxed hW1
  replace hxb := boxed hxb
  clear l1 hS0 hT0
  go_enter Try.func4, Try.ntmps4
  go_upto_region 1 with fail
  rw [hW1.out]
  have hxb' := hxb.out
  rw [hxb']
  clear hxb' hW1
  go_wp2_with fail
  refine HA.out.mono ?_
  rintro e w2 ⟨rfl, hb2⟩
  have HB2 : Box (Below w.heap.size w w2) := boxed (below_step HB1.out (Nat.le_refl _) hb2)
  have HX2 : Box (w2.heap[xb]? = some (.cells #[.slice ao0 n0 cap0, .slice bo0 m0 cbp0, .int .i64 l0, .int .i64 r0] 24 (0, 0))) := boxed ((hb2.block _ (heap_lt HX1.out)).trans HX1.out)
  have hbk := book17_any w2 ao0 bo0 n0 m0 cap0 cbp0 S0 T0 l0 r0 (HS.out.below HB2.out) (HTT.out.below HB2.out) hn0.1 hn0.2
  unfold listsV at hbk
  have c0 : w2.cell? ⟨xb, 0, none⟩ = some (.slice ao0 n0 cap0) := by rw [cell_of_row _ _ _ _ _ _ HX2.out]; rfl
  have c1 : w2.cell? ⟨xb, 1, none⟩ = some (.slice bo0 m0 cbp0) := by rw [cell_of_row _ _ _ _ _ _ HX2.out]; rfl
  have c2 : w2.cell? ⟨xb, 2, none⟩ = some (.int .i64 l0) := by rw [cell_of_row _ _ _ _ _ _ HX2.out]; rfl
  have c3 : w2.cell? ⟨xb, 3, none⟩ = some (.int .i64 r0) := by rw [cell_of_row _ _ _ _ _ _ HX2.out]; rfl
  clear hb2 HA HX1 HB1
  go_wp2_with fail
  refine hbk.mono ?_
  rintro e w3 ⟨hB, hb3⟩
  have HB3 : Box (Below w.heap.size w w3) := boxed (below_step HB2.out (Nat.le_refl _) hb3)
  have HX3 : Box (w3.heap[xb]? = some (.cells #[.slice ao0 n0 cap0, .slice bo0 m0 cbp0, .int .i64 l0, .int .i64 r0] 24 (0, 0))) := boxed ((hb3.block _ (heap_lt HX2.out)).trans HX2.out)
  clear hbk hb3 c0 c1 c2 c3 HX2 HB2
  rcases hB with ⟨-, rfl⟩ | ⟨hG, bp, eb, lb, wb, Nd, Z, Y, rfl, hbk, hz1, hz2⟩
  · go_wp2_with fail
    go_ret
    exact ⟨rfl, HB3.out⟩
  by_cases h300 : 300 < a1.size
  · have t1 : decide ((300 : Int) < (a1.size : Int)) = true := decide_eq_true (by omega)
    have t2 : decide (300 < a1.size) = true := decide_eq_true h300
    clear hbk hz1 hz2
    go_wp2_with fail
    go_ret
    exact ⟨rfl, HB3.out⟩
  have t1 : decide ((300 : Int) < (a1.size : Int)) = false := decide_eq_false (by omega)
  have t2 : decide (300 < a1.size) = false := decide_eq_false h300
  obtain ⟨⟨h60, h30⟩, hmay, hpo, hwo⟩ := hG
  obtain ⟨hl, hr⟩ : (1 ≤ l0 ∧ l0 ≤ 100) ∧ (1 ≤ r0 ∧ r0 ≤ 100) := by
    rcases may_four l0 r0 with ⟨_, h⟩ | ⟨h, _⟩
    · exact h
    · rw [h] at hmay; cases hmay
  obtain ⟨L, hL⟩ : ∃ L : Nat, l0 = (L : Int) := ⟨l0.toNat, by omega⟩
  obtain ⟨R, hR⟩ : ∃ R : Nat, r0 = (R : Int) := ⟨r0.toNat, by omega⟩
  subst hL hR
  have HPT : Box (∀ W, Below w3.heap.size w3 W → Calls Try.prog 13 #[.pointer (some ⟨bp, 0, none⟩), .string a1] W fun e w' => ∃ out v, e = .returned v ∧ w'.ownsRow W.heap.size 3 1 v out.length (vals out) ∧ PtsS (qS S0 n0) (yS T0 m0) L R a1 out ∧ Below W.heap.size W w') := boxed (fun W hW => by
    have := points_any W bp eb lb wb L R Nd Z Y a1 (by simpa using hbk.below hW) w1 (by omega) (by omega)
    rw [hz1, hz2] at this
    exact this)
  have HRF : Box (∀ W, Below w3.heap.size w3 W → Calls Try.prog 14 #[.slice ao0 n0 cap0, .slice bo0 m0 cbp0, .int .i64 (L : Int), .int .i64 (R : Int), .string a1] W fun e w' => ∃ out v, e = .returned v ∧ w'.ownsRow W.heap.size 3 1 v out.length (vals out) ∧ PtsS (qS S0 n0) (yS T0 m0) L R a1 out ∧ Below W.heap.size W w') := boxed (fun W hW => by
    have hw : Below w.heap.size w W := below_step HB3.out (Nat.le_refl _) hW
    exact refpoints_any W ao0 bo0 n0 m0 cap0 cbp0 S0 T0 L R a1 (HS.out.below hw) (HTT.out.below hw) (by omega) (by omega) hpo hwo (by omega) (by omega) (by omega))
  have HK : Box (∀ W, Below w3.heap.size w3 W → W.cell? ⟨xb, 0, none⟩ = some (.slice ao0 n0 cap0) ∧ W.cell? ⟨xb, 1, none⟩ = some (.slice bo0 m0 cbp0) ∧ W.cell? ⟨xb, 2, none⟩ = some (.int .i64 (L : Int)) ∧ W.cell? ⟨xb, 3, none⟩ = some (.int .i64 (R : Int))) := boxed (fun W hW => by
    have hx := (hW.block _ (heap_lt HX3.out)).trans HX3.out
    refine ⟨?_, ?_, ?_, ?_⟩ <;> (rw [cell_of_row _ _ _ _ _ _ hx]; rfl))
  clear hbk hz1 hz2 hpo hwo hmay HX3
  go_wp2_with fail
  have HD0 : Box (Below w3.heap.size w3 w3.drew) := boxed ((Below.refl _ _).drew)
  go_region_held3 (fun W => W.cell? ⟨xb, 0, none⟩ = some (.slice ao0 n0 cap0) ∧ W.cell? ⟨xb, 1, none⟩ = some (.slice bo0 m0 cbp0) ∧ W.cell? ⟨xb, 2, none⟩ = some (.int .i64 (L : Int)) ∧ W.cell? ⟨xb, 3, none⟩ = some (.int .i64 (R : Int)))
    (first | with_reducible exact HK.out _ HD0.out | with_reducible exact HK.out _ HD4.out | with_reducible exact HK.out _ HD5.out | with_reducible exact HK.out _ HD6.out)
    (first
      | (go_at_call 13; refine (HPT.out _ HD0.out).mono ?_; rintro e' w4 ⟨out, v, rfl, ho, hp, hb4⟩; obtain ⟨-, ao4, cap4, rfl, hd4⟩ := dg_of_owns ho; have HO4 := boxed hd4; have HP4 := boxed hp; have HD4 := boxed (below_step HD0.out (Nat.le_refl _) hb4); clear hb4 ho hp hd4)
      | (go_at_call 14; refine (HRF.out _ HD4.out).mono ?_; rintro e' w5 ⟨out2, v2, rfl, ho2, hp2, hb5⟩; have he := hp2.uniq HP4.out; subst he; obtain ⟨-, ao5, cap5, rfl, hd5⟩ := dg_of_owns ho2; have HSM := boxed (same17_any _ _ _ _ _ _ _ (HO4.out.below hb5) hd5); have HD5 := boxed (below_step HD4.out (Nat.le_refl _) hb5); clear hb5 ho2 hp2 hd5)
      | (go_at_call 12; refine HSM.out.mono ?_; rintro e' w6 ⟨rfl, q, rfl⟩; have HD6 := boxed (HD5.out.trans (bel_drewN _ _ q)))
      )
  go_wp2
  go_ret
  exact ⟨by simp, below_step HB3.out (Nat.le_refl _) HD6.out⟩

set_option maxRecDepth 100000 in
theorem lifted (os : Os) (started : os.Started) (H : Type) (enc : TypeId × Value → H) (F : Stop.Interp) :
    ReturnsInHanded {} Try.checked os 4 .any ((Rows.OpenSpec.upto Rows.hyphenPointsSpec).pre6 enc Try.prog Try.f4 Rows.hyphenPointsUptoRow.domain false) (((Rows.OpenSpec.upto Rows.hyphenPointsSpec).at F).post enc Try.prog Try.f4 false true false false) := by
  refine returnsInHanded_of_cond (C := Try.checked) (s := Rows.OpenSpec.upto Rows.hyphenPointsSpec) (k := Rows.uptoSmall) rfl own started (by kernel_rfl) Try.func4
    (OpenSpec.witness (enc := enc) (C := Try.checked) (s := Rows.OpenSpec.upto Rows.hyphenPointsSpec) (k := Rows.uptoSmall) rfl false ⟨#[], #[.agg #[.slice none 0 0, .slice none 0 0, .int .i64 0, .int .i64 0], .string ByteArray.empty], []⟩ 8 (by kernel_rfl) (by kernel_rfl) (by kernel_rfl)
      (x := ([.agg [.nil, .nil, .lit (.int .i64 0), .lit (.int .i64 0)], .lit (.string [])], [], [])) (by kernel_rfl) rfl (by kernel_rfl)) ?_
  intro W base args ds gs before hval0 hW _ hk _
  have hval : ∀ (j : Nat) t v, Try.f4.params[j]? = some t → args[j]? = some v → Value.okWide Try.prog W .any base t v := hval0
  have hW' := hW
  obtain ⟨p, q, hA0, hV, rfl, hfz, hnd⟩ := hW
  have hA : DataW.TrodAll enc Try.prog W 0 (fun _ => true) true Try.f4.params.toList args.toList ds p := hA0
  rw [Try.params4] at hA hval
  obtain ⟨v0, vs0, d0, ds0, p0, q0, hargs, rfl, rfl, h0, rr0⟩ := trodAll_cons hA
  obtain ⟨v1, vs1, d1, ds1, p1, q1, rfl, rfl, rfl, h1, rr1⟩ := trodAll_cons rr0
  obtain ⟨rfl, rfl, rfl⟩ := trodAll_nil rr1
  obtain rfl : args = #[v0, v1] := by cases args; simp_all
  obtain ⟨rfl, rfl⟩ := trodVars_none hV
  simp only [List.append_nil] at hW' hk
  have hb0 : Rows.uptoBulk d0 ≤ 1048576 := Nat.le_trans (bulk_part (by simp)) (of_decide_eq_true hk : Rows.uptoBulkAll _ ≤ 1048576)
  have k0 := h0
  have lt0 : ∀ x ∈ p0, x.block < W.heap.size := by obtain ⟨m, hm⟩ := k0; exact DataW.trod_lt m _ _ _ hm
  obtain ⟨ao0, n0, cap0, bo0, m0, cbp0, l0, r0, S0, T0, rfl, hn0, hS0, hT0, hl0⟩ : ∃ (ao : Option Addr) (n cap : Nat) (ao' : Option Addr) (n' cap' : Nat) (l r : Int) (S T : Nat → ByteArray), v0 = listsV ao n cap ao' n' cap' l r ∧ (n ≤ maxLen ∧ n' ≤ maxLen) ∧ StrsAt W ao n S ∧ StrsAt W ao' n' T ∧ I64 l ∧ I64 r := by
    obtain ⟨fuel, hf⟩ := k0
    exact lists_value hf hb0
  have hb1 : Rows.uptoBulk d1 ≤ 1048576 := Nat.le_trans (bulk_part (by simp)) (of_decide_eq_true hk : Rows.uptoBulkAll _ ≤ 1048576)
  obtain ⟨a1, rfl, rfl, rfl, w1⟩ := open_string Try.underlying9 (hval 1 9 v1 rfl rfl) h1
  have z1 : a1.size ≤ 1048576 := by have := bulk_text (H := H) (b := a1) rfl; omega
  clear hA0 hval0
  refine (walk W ao0 n0 cap0 bo0 m0 cbp0 l0 r0 S0 T0 hn0 hS0 hT0 hl0 a1 w1 z1).mono fun e W' ⟨he, hg⟩ => ?_
  subst he
  exact ⟨_, rfl, _, _, _, [], _, [], hW', trodAll_mk1 (shut_bool Try.underlying4 _), (trodAll_cons_mk (Below.trod laidOut (by kernel_rfl) (of_decide_eq_true (by kernel_rfl)) k0 hg lt0) (trodAll_cons_mk (shut_string Try.underlying9 w1) trodAll_mk0)), rfl, hg.frame _, fun h => by cases h⟩

theorem proved : Rows.HyphenPointsUptoSaid :=
  OpenClaim.holds_of_cond 4 Try.f4 rfl rfl rfl rfl rfl rfl rfl ⟨rfl, rfl, rfl, rfl, rfl⟩ rfl rfl rfl rfl rfl (by kernel_rfl) Try.func4 (by kernel_rfl)
    (of_decide_eq_true (by kernel_rfl)) (by unfold Func.isWrapper; first | (rw [if_pos (by decide +kernel)]; kernel_rfl) | (rw [if_neg (by decide +kernel)]; exact ⟨rfl, rfl⟩))
    (fun os started H enc _ F => lifted os started H enc F)
#print axioms proved
end Go.Proofs.Ytflhefgmgdgffaa.hyphenPoints
