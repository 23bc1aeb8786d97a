/-
  'regletlaw17.HyphenTakes': what New answers and what Check answers, by their contracts.
-/
import Derived.Test.YtflhefgmgdgffaaRows
import Derived.WalkKit
import Derived.ProofKit
import Derived.OpenShut
import Derived.JoinedCond
import Derived.ChangeOld
import Derived.Below
import Derived.Test.YtflhefgmgdgffaaHyz
namespace Go.Proofs.Ytflhefgmgdgffaa.hyphenTakes
open Go.ChangeShapes Go.WideShapes Go.ChangeAt Go.RowKit
open Go.ChangeMaps (open_string shut_string)
set_option linter.unusedVariables false
set_option linter.unusedSimpArgs false

theorem own : ownKnob Try.prog.godebug = none := by kernel_rfl
theorem laidOut : laidOutB Try.prog = true := by kernel_rfl

set_option maxRecDepth 100000 in
set_option maxHeartbeats 2000000 in
theorem walk (w : World) (ao0 : Option Addr) (n0 cap0 : Nat) (bo0 : Option Addr) (m0 cbp0 : Nat) (l0 r0 : Int) (S0 T0 : Nat → ByteArray) (hn0 : n0 ≤ maxLen ∧ m0 ≤ maxLen) (hS0 : StrsAt w ao0 n0 S0) (hT0 : StrsAt w bo0 m0 T0) (hl0 : I64 l0 ∧ I64 r0) :
    Calls Try.prog 3 #[listsV ao0 n0 cap0 bo0 m0 cbp0 l0 r0] w fun e w' => e = .returned (.bool true) ∧ Below w.heap.size w w' := by
  unfold listsV
  have hn2 := hn0
  unfold maxLen at hn2
  have l1 := laid1 w (.cells #[.slice ao0 n0 cap0, .slice bo0 m0 cbp0, .int .i64 l0, .int .i64 r0] 24)
  obtain ⟨W1, hW1⟩ : ∃ W1, w.alloc (.cells #[.slice ao0 n0 cap0, .slice bo0 m0 cbp0, .int .i64 l0, .int .i64 r0] 24) = W1 := ⟨_, rfl⟩
  rw [hW1] at l1
  have HB1 := boxed l1.2.1
  have HX1 := boxed l1.1
  have HS := boxed hS0
  have HTT := boxed hT0
  have HA := boxed (awake_any W1)
  obtain ⟨xb, hxb⟩ : ∃ xb, w.heap.size = xb := ⟨_, rfl⟩
  rw [hxb] at HX1
  replace hW1 := boxed hW1
  replace hxb := boxed hxb
  clear l1 hS0 hT0
  go_enter Try.func3, Try.ntmps3
  go_upto_region 1 with fail
  rw [hW1.out]
  have hxb' := hxb.out
  rw [hxb']
  clear hxb' hW1
  go_wp2_with fail
  refine HA.out.mono ?_
  rintro e w2 ⟨rfl, hb2⟩
  have HB2 : Box (Below w.heap.size w w2) := boxed (below_step HB1.out (Nat.le_refl _) hb2)
  have HX2 : Box (w2.heap[xb]? = some (.cells #[.slice ao0 n0 cap0, .slice bo0 m0 cbp0, .int .i64 l0, .int .i64 r0] 24 (0, 0))) := boxed ((hb2.block _ (heap_lt HX1.out)).trans HX1.out)
  have c0 : w2.cell? ⟨xb, 0, none⟩ = some (.slice ao0 n0 cap0) := by rw [cell_of_row _ _ _ _ _ _ HX2.out]; rfl
  have c1 : w2.cell? ⟨xb, 1, none⟩ = some (.slice bo0 m0 cbp0) := by rw [cell_of_row _ _ _ _ _ _ HX2.out]; rfl
  have c2 : w2.cell? ⟨xb, 2, none⟩ = some (.int .i64 l0) := by rw [cell_of_row _ _ _ _ _ _ HX2.out]; rfl
  have c3 : w2.cell? ⟨xb, 3, none⟩ = some (.int .i64 r0) := by rw [cell_of_row _ _ _ _ _ _ HX2.out]; rfl
  clear hb2 HA HX1 HB1
  have t : (decide ((60 : Int) < (n0 : Int)) = true ∧ decide (60 < n0) = true) ∨ (decide ((60 : Int) < (n0 : Int)) = false ∧ decide (60 < n0) = false ∧ decide ((30 : Int) < (m0 : Int)) = true ∧ decide (30 < m0) = true) ∨ (decide ((60 : Int) < (n0 : Int)) = false ∧ decide (60 < n0) = false ∧ decide ((30 : Int) < (m0 : Int)) = false ∧ decide (30 < m0) = false ∧ n0 ≤ 60 ∧ m0 ≤ 30) := by
    by_cases h1 : n0 ≤ 60
    · by_cases h2 : m0 ≤ 30
      · exact .inr (.inr ⟨decide_eq_false (by omega), decide_eq_false (by omega), decide_eq_false (by omega), decide_eq_false (by omega), h1, h2⟩)
      · exact .inr (.inl ⟨decide_eq_false (by omega), decide_eq_false (by omega), decide_eq_true (by omega), decide_eq_true (by omega)⟩)
    · exact .inl ⟨decide_eq_true (by omega), decide_eq_true (by omega)⟩
  rcases t with ⟨t1, t2⟩ | ⟨t1, t2, t3, t4⟩ | ⟨t1, t2, t3, t4, h60, h30⟩
  · go_wp2_with fail
    go_ret
    exact ⟨rfl, HB2.out⟩
  · go_wp2_with fail
    go_ret
    exact ⟨rfl, HB2.out⟩
  have hnw := new_any w2 ao0 bo0 n0 m0 cap0 cbp0 S0 T0 l0 r0 (HS.out.below HB2.out) (HTT.out.below HB2.out) h60 (by omega)
  go_wp2_with fail
  refine hnw.mono ?_
  rintro e w3 ⟨hN, hb3⟩
  clear hnw
  have HB3 : Box (Below w.heap.size w w3) := boxed (below_step HB2.out (Nat.le_refl _) hb3)
  replace c0 := hold hb3 c0
  replace c1 := hold hb3 c1
  replace c2 := hold hb3 c2
  replace c3 := hold hb3 c3
  have hck := refcheck_any w3 ao0 bo0 n0 m0 cap0 cbp0 S0 T0 l0 r0 (HS.out.below HB3.out) (HTT.out.below HB3.out) h60 (by omega)
  clear hb3 HX2 HB2 t1 t2 t3 t4
  rcases hN with ⟨hm1, rfl⟩ | ⟨hm1, i, hi, hp, hpl, rfl⟩ | ⟨hm1, hpo, i, hi, hq, hql, rfl⟩ | ⟨hm1, hpo, hwo, bp, eb, lb, wb, Nd, Z, Y, rfl, hbk, hz1, hz2⟩
  · have HM := boxed hm1
    clear hm1
    go_wp2_with fail
    refine hck.mono ?_
    rintro e w4 ⟨hC, hb4⟩
    clear hck
    have HB4 : Box (Below w.heap.size w w4) := boxed (below_step HB3.out (Nat.le_refl _) hb4)
    clear hb4 c0 c1 c2 c3
    rcases hC with ⟨-, rfl⟩ | ⟨hm1, -⟩ | ⟨hm1, -⟩ | ⟨hm1, -⟩
    rotate_left
    · exact absurd HM.out (by rw [hm1]; simp)
    · exact absurd HM.out (by rw [hm1]; simp)
    · exact absurd HM.out (by rw [hm1]; simp)
    go_wp2_with fail
    go_ret
    exact ⟨rfl, HB4.out⟩
  · have HM := boxed hm1
    have HP := boxed hp
    have HPL := boxed hpl
    clear hm1 hp hpl
    go_wp2_with fail
    refine hck.mono ?_
    rintro e w4 ⟨hC, hb4⟩
    clear hck
    have HB4 : Box (Below w.heap.size w w4) := boxed (below_step HB3.out (Nat.le_refl _) hb4)
    clear hb4 c0 c1 c2 c3
    rcases hC with ⟨hm1, rfl⟩ | ⟨hm1, i', hi', hp', hpl', rfl⟩ | ⟨hm1, hpo, -⟩ | ⟨hm1, hpo, -⟩
    · exact absurd HM.out (by rw [hm1]; simp)
    · have : i' = i := by
        rcases Nat.lt_trichotomy i' i with h | h | h
        · exact absurd hp' (HPL.out i' h)
        · exact h
        · exact absurd HP.out (hpl' i h)
      subst this
      clear hm1 hp' hpl'
      go_wp2_with fail
      go_ret
      exact ⟨by simp, HB4.out⟩
    · exact absurd HP.out (hpo i hi)
    · exact absurd HP.out (hpo i hi)
  · have HM := boxed hm1
    have HPO := boxed hpo
    have HQ := boxed hq
    have HQL := boxed hql
    clear hm1 hpo hq hql
    go_wp2_with fail
    refine hck.mono ?_
    rintro e w4 ⟨hC, hb4⟩
    clear hck
    have HB4 : Box (Below w.heap.size w w4) := boxed (below_step HB3.out (Nat.le_refl _) hb4)
    clear hb4 c0 c1 c2 c3
    rcases hC with ⟨hm1, rfl⟩ | ⟨hm1, i', hi', hp', hpl', rfl⟩ | ⟨hm1, hpo, i', hi', hq', hql', rfl⟩ | ⟨hm1, hpo, hwo, rfl⟩
    · exact absurd HM.out (by rw [hm1]; simp)
    · exact absurd hp' (HPO.out i' hi')
    · have : i' = i := by
        rcases Nat.lt_trichotomy i' i with h | h | h
        · exact absurd hq' (HQL.out i' h)
        · exact h
        · exact absurd HQ.out (hql' i h)
      subst this
      clear hm1 hpo hq' hql'
      go_wp2_with fail
      go_ret
      exact ⟨by simp, HB4.out⟩
    · exact absurd HQ.out (hwo i hi)
  · have HM := boxed hm1
    have HPO := boxed hpo
    have HWO := boxed hwo
    have HBK := boxed hbk
    clear hm1 hpo hwo hbk hz1 hz2
    go_wp2_with fail
    refine hck.mono ?_
    rintro e w4 ⟨hC, hb4⟩
    clear hck
    have HB4 : Box (Below w.heap.size w w4) := boxed (below_step HB3.out (Nat.le_refl _) hb4)
    have hsz := booksize_any w4 bp eb lb wb _ _ Nd Z Y (HBK.out.below hb4)
    clear hb4 c0 c1 c2 c3 HBK
    rcases hC with ⟨hm1, rfl⟩ | ⟨hm1, i', hi', hp', hpl', rfl⟩ | ⟨hm1, hpo, i', hi', hq', hql', rfl⟩ | ⟨hm1, hpo, hwo, rfl⟩
    · exact absurd HM.out (by rw [hm1]; simp)
    · exact absurd hp' (HPO.out i' hi')
    · exact absurd hq' (HWO.out i' hi')
    · clear hm1 hpo hwo HPO HWO HM
      go_wp2_with fail
      refine hsz.mono ?_
      rintro e w5 ⟨⟨k, hk, rfl⟩, hb5⟩
      have HB5 : Box (Below w.heap.size w w5) := boxed (below_step HB4.out (Nat.le_refl _) hb5)
      have t1 : decide ((1 : Int) ≤ (k : Int) + 1) = true := decide_eq_true (by omega)
      clear hsz hb5
      go_wp2_with fail
      go_ret
      exact ⟨by simp, HB5.out⟩

set_option maxRecDepth 100000 in
theorem lifted (os : Os) (started : os.Started) (H : Type) (enc : TypeId × Value → H) (F : Stop.Interp) :
    ReturnsInHanded {} Try.checked os 3 .any ((Rows.OpenSpec.upto Rows.hyphenTakesSpec).pre6 enc Try.prog Try.f3 Rows.hyphenTakesUptoRow.domain false) (((Rows.OpenSpec.upto Rows.hyphenTakesSpec).at F).post enc Try.prog Try.f3 false true false false) := by
  refine returnsInHanded_of_cond (C := Try.checked) (s := Rows.OpenSpec.upto Rows.hyphenTakesSpec) (k := Rows.uptoSmall) rfl own started (by kernel_rfl) Try.func3
    (OpenSpec.witness (enc := enc) (C := Try.checked) (s := Rows.OpenSpec.upto Rows.hyphenTakesSpec) (k := Rows.uptoSmall) rfl false ⟨#[], #[.agg #[.slice none 0 0, .slice none 0 0, .int .i64 0, .int .i64 0]], []⟩ 8 (by kernel_rfl) (by kernel_rfl) (by kernel_rfl)
      (x := ([.agg [.nil, .nil, .lit (.int .i64 0), .lit (.int .i64 0)]], [], [])) (by kernel_rfl) rfl (by kernel_rfl)) ?_
  intro W base args ds gs before hval0 hW _ hk _
  have hval : ∀ (j : Nat) t v, Try.f3.params[j]? = some t → args[j]? = some v → Value.okWide Try.prog W .any base t v := hval0
  have hW' := hW
  obtain ⟨p, q, hA0, hV, rfl, hfz, hnd⟩ := hW
  have hA : DataW.TrodAll enc Try.prog W 0 (fun _ => true) true Try.f3.params.toList args.toList ds p := hA0
  rw [Try.params3] at hA hval
  obtain ⟨v0, vs0, d0, ds0, p0, q0, hargs, rfl, rfl, h0, rr0⟩ := trodAll_cons hA
  obtain ⟨rfl, rfl, rfl⟩ := trodAll_nil rr0
  obtain rfl : args = #[v0] := by cases args; simp_all
  obtain ⟨rfl, rfl⟩ := trodVars_none hV
  simp only [List.append_nil] at hW' hk
  have hb0 : Rows.uptoBulk d0 ≤ 1048576 := Nat.le_trans (bulk_part (by simp)) (of_decide_eq_true hk : Rows.uptoBulkAll _ ≤ 1048576)
  have k0 := h0
  have lt0 : ∀ x ∈ p0, x.block < W.heap.size := by obtain ⟨m, hm⟩ := k0; exact DataW.trod_lt m _ _ _ hm
  obtain ⟨ao0, n0, cap0, bo0, m0, cbp0, l0, r0, S0, T0, rfl, hn0, hS0, hT0, hl0⟩ : ∃ (ao : Option Addr) (n cap : Nat) (ao' : Option Addr) (n' cap' : Nat) (l r : Int) (S T : Nat → ByteArray), v0 = listsV ao n cap ao' n' cap' l r ∧ (n ≤ maxLen ∧ n' ≤ maxLen) ∧ StrsAt W ao n S ∧ StrsAt W ao' n' T ∧ I64 l ∧ I64 r := by
    obtain ⟨fuel, hf⟩ := k0
    exact lists_value hf hb0
  clear hA0 hval0
  refine (walk W ao0 n0 cap0 bo0 m0 cbp0 l0 r0 S0 T0 hn0 hS0 hT0 hl0).mono fun e W' ⟨he, hg⟩ => ?_
  subst he
  exact ⟨_, rfl, _, _, _, [], _, [], hW', trodAll_mk1 (shut_bool Try.underlying4 _), (trodAll_cons_mk (Below.trod laidOut (by kernel_rfl) (of_decide_eq_true (by kernel_rfl)) k0 hg lt0) trodAll_mk0), rfl, hg.frame _, fun h => by cases h⟩

theorem proved : Rows.HyphenTakesUptoSaid :=
  OpenClaim.holds_of_cond 3 Try.f3 rfl rfl rfl rfl rfl rfl rfl ⟨rfl, rfl, rfl, rfl, rfl⟩ rfl rfl rfl rfl rfl (by kernel_rfl) Try.func3 (by kernel_rfl)
    (of_decide_eq_true (by kernel_rfl)) (by unfold Func.isWrapper; first | (rw [if_pos (by decide +kernel)]; kernel_rfl) | (rw [if_neg (by decide +kernel)]; exact ⟨rfl, rfl⟩))
    (fun os started H enc _ F => lifted os started H enc F)
#print axioms proved
end Go.Proofs.Ytflhefgmgdgffaa.hyphenTakes
