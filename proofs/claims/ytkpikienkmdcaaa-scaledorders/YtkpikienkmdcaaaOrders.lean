/-
  Proved: for every four numbers of 64 bits the statement ScaledOrders answers true: Less answers what the document says where both lower numbers are above 0, and of two fractions the one is less just if the other isn't, and they aren't alike. No condition.
-/
import Derived.Test.YtkpikienkmdcaaaRows
import Derived.WalkKit
import Derived.ProofKit
import Derived.OpenShut
import Derived.Below
import Derived.Laws.IdiomArrays
import Derived.Test.YtkpikienkmdcaaaL
namespace Go.Proofs.Ytkpikienkmdcaaa.scaledOrders
open Go.ChangeShapes Go.WideShapes Go.ChangeAt Go.RowKit
set_option linter.unusedVariables false
set_option linter.unusedSimpArgs false

theorem own : ownKnob Try.prog.godebug = none := by kernel_rfl
theorem cells3 : Try.prog.cellsOf 3 = 1 := by kernel_rfl
theorem cells33 : Try.prog.cellsOf 33 = 4 := by kernel_rfl
theorem list4 {α : Type} (l : List α) (h : (⟨l⟩ : Array α).size = 4) : ∃ a b c d, l = [a, b, c, d] := by
  match l, h with
  | [a, b, c, d], _ => exact ⟨a, b, c, d, rfl⟩

/-! ### The walk -/
set_option maxHeartbeats 1000000 in
theorem walk_none (a b c d : Int) (w : World) (h : b ≤ 0 ∨ d ≤ 0) :
    Calls Try.prog 7 #[.agg #[.int .i64 a, .int .i64 b, .int .i64 c, .int .i64 d]] w fun e w' => e = .returned (.bool true) ∧ Below w.heap.size w w' := by
  by_cases hb : b ≤ 0
  · have g : decide (b ≤ 0) = true := by simpa using hb
    go_enter Try.func7, Try.ntmps7
    go_wp2_with fail
    refine (awake_any _).mono ?_
    rintro e w' ⟨rfl, n, rfl⟩
    go_wp2_with fail
    go_quiet (fail)
    go_wp2_with fail
    go_ret
    exact ⟨rfl, ((Below.refl _ _).alloc (Nat.le_refl _) _).trans (bel_drewN _ _ _)⟩
  · have hd : d ≤ 0 := by omega
    have g : decide (b ≤ 0) = false := by simpa using hb
    have g2 : decide (d ≤ 0) = true := by simpa using hd
    go_enter Try.func7, Try.ntmps7
    go_wp2_with fail
    refine (awake_any _).mono ?_
    rintro e w' ⟨rfl, n, rfl⟩
    go_wp2_with fail
    go_quiet (fail)
    go_wp2_with fail
    go_ret
    exact ⟨rfl, ((Below.refl _ _).alloc (Nat.le_refl _) _).trans (bel_drewN _ _ _)⟩

set_option maxHeartbeats 1000000 in
theorem walk_less (a b c d : Int) (w : World) (hb : 0 < b) (hd : 0 < d) (h1 : ls a b c d = true) (h2 : ls c d a b = false) (h3 : (lo1 a b == lo1 c d) = false) :
    Calls Try.prog 7 #[.agg #[.int .i64 a, .int .i64 b, .int .i64 c, .int .i64 d]] w fun e w' => e = .returned (.bool true) ∧ Below w.heap.size w w' := by
  have g1 : decide (b ≤ 0) = false := by simp; omega
  have g2 : decide (d ≤ 0) = false := by simp; omega
  have HBb := hidq hb
  have HDd := hidq hd
  clear hb hd
  go_enter Try.func7, Try.ntmps7
  go_wp2_with fail
  refine (awake_any _).mono ?_
  rintro e w' ⟨rfl, n, rfl⟩
  go_wp2_with fail
  go_quiet (fail)
  go_wp2_with fail
  refine (less_any _ _ _ _ _).mono ?_
  rintro e w1 ⟨rfl, hw1⟩
  subst w1
  go_wp2_with fail
  refine (less_any _ _ _ _ _).mono ?_
  rintro e w1 ⟨rfl, hw1⟩
  subst w1
  go_wp2_with fail
  refine (lowest_any _ _ _).mono ?_
  rintro e w1 ⟨rfl, n2, rfl⟩
  go_wp2_with fail
  refine (lowest_any _ _ _).mono ?_
  rintro e w1 ⟨rfl, n3, rfl⟩
  go_wp2_with fail
  refine (refless_any _ _ _ _ _ HBb.out HDd.out).mono ?_
  rintro e w4 ⟨rfl, hb4⟩
  have HB : Hid (Below w.heap.size w w4) := ((Below.refl _ w).alloc (Nat.le_refl _) _).trans (((bel_drewN _ _ _).trans hb4).mono (by simp))
  clear hb4
  go_wp2_with fail
  go_ret
  exact ⟨rfl, HB.out⟩

set_option maxHeartbeats 1000000 in
theorem walk_less2 (a b c d : Int) (w : World) (hb : 0 < b) (hd : 0 < d) (h1 : ls a b c d = true) (h2 : ls c d a b = false) (h3 : (lo1 a b == lo1 c d) = true) (h4 : (lo2 a b == lo2 c d) = false) :
    Calls Try.prog 7 #[.agg #[.int .i64 a, .int .i64 b, .int .i64 c, .int .i64 d]] w fun e w' => e = .returned (.bool true) ∧ Below w.heap.size w w' := by
  have g1 : decide (b ≤ 0) = false := by simp; omega
  have g2 : decide (d ≤ 0) = false := by simp; omega
  have HBb := hidq hb
  have HDd := hidq hd
  clear hb hd
  go_enter Try.func7, Try.ntmps7
  go_wp2_with fail
  refine (awake_any _).mono ?_
  rintro e w' ⟨rfl, n, rfl⟩
  go_wp2_with fail
  go_quiet (fail)
  go_wp2_with fail
  refine (less_any _ _ _ _ _).mono ?_
  rintro e w1 ⟨rfl, hw1⟩
  subst w1
  go_wp2_with fail
  refine (less_any _ _ _ _ _).mono ?_
  rintro e w1 ⟨rfl, hw1⟩
  subst w1
  go_wp2_with fail
  refine (lowest_any _ _ _).mono ?_
  rintro e w1 ⟨rfl, n2, rfl⟩
  go_wp2_with fail
  refine (lowest_any _ _ _).mono ?_
  rintro e w1 ⟨rfl, n3, rfl⟩
  go_wp2_with fail
  refine (refless_any _ _ _ _ _ HBb.out HDd.out).mono ?_
  rintro e w4 ⟨rfl, hb4⟩
  have HB : Hid (Below w.heap.size w w4) := ((Below.refl _ w).alloc (Nat.le_refl _) _).trans (((bel_drewN _ _ _).trans hb4).mono (by simp))
  clear hb4
  go_wp2_with fail
  go_ret
  exact ⟨rfl, HB.out⟩

set_option maxHeartbeats 1000000 in
theorem walk_more (a b c d : Int) (w : World) (hb : 0 < b) (hd : 0 < d) (h1 : ls a b c d = false) (h2 : ls c d a b = true) (h3 : (lo1 a b == lo1 c d) = false) :
    Calls Try.prog 7 #[.agg #[.int .i64 a, .int .i64 b, .int .i64 c, .int .i64 d]] w fun e w' => e = .returned (.bool true) ∧ Below w.heap.size w w' := by
  have g1 : decide (b ≤ 0) = false := by simp; omega
  have g2 : decide (d ≤ 0) = false := by simp; omega
  have HBb := hidq hb
  have HDd := hidq hd
  clear hb hd
  go_enter Try.func7, Try.ntmps7
  go_wp2_with fail
  refine (awake_any _).mono ?_
  rintro e w' ⟨rfl, n, rfl⟩
  go_wp2_with fail
  go_quiet (fail)
  go_wp2_with fail
  refine (less_any _ _ _ _ _).mono ?_
  rintro e w1 ⟨rfl, hw1⟩
  subst w1
  go_wp2_with fail
  refine (less_any _ _ _ _ _).mono ?_
  rintro e w1 ⟨rfl, hw1⟩
  subst w1
  go_wp2_with fail
  refine (lowest_any _ _ _).mono ?_
  rintro e w1 ⟨rfl, n2, rfl⟩
  go_wp2_with fail
  refine (lowest_any _ _ _).mono ?_
  rintro e w1 ⟨rfl, n3, rfl⟩
  go_wp2_with fail
  refine (refless_any _ _ _ _ _ HBb.out HDd.out).mono ?_
  rintro e w4 ⟨rfl, hb4⟩
  have HB : Hid (Below w.heap.size w w4) := ((Below.refl _ w).alloc (Nat.le_refl _) _).trans (((bel_drewN _ _ _).trans hb4).mono (by simp))
  clear hb4
  go_wp2_with fail
  go_ret
  exact ⟨rfl, HB.out⟩

set_option maxHeartbeats 1000000 in
theorem walk_more2 (a b c d : Int) (w : World) (hb : 0 < b) (hd : 0 < d) (h1 : ls a b c d = false) (h2 : ls c d a b = true) (h3 : (lo1 a b == lo1 c d) = true) (h4 : (lo2 a b == lo2 c d) = false) :
    Calls Try.prog 7 #[.agg #[.int .i64 a, .int .i64 b, .int .i64 c, .int .i64 d]] w fun e w' => e = .returned (.bool true) ∧ Below w.heap.size w w' := by
  have g1 : decide (b ≤ 0) = false := by simp; omega
  have g2 : decide (d ≤ 0) = false := by simp; omega
  have HBb := hidq hb
  have HDd := hidq hd
  clear hb hd
  go_enter Try.func7, Try.ntmps7
  go_wp2_with fail
  refine (awake_any _).mono ?_
  rintro e w' ⟨rfl, n, rfl⟩
  go_wp2_with fail
  go_quiet (fail)
  go_wp2_with fail
  refine (less_any _ _ _ _ _).mono ?_
  rintro e w1 ⟨rfl, hw1⟩
  subst w1
  go_wp2_with fail
  refine (less_any _ _ _ _ _).mono ?_
  rintro e w1 ⟨rfl, hw1⟩
  subst w1
  go_wp2_with fail
  refine (lowest_any _ _ _).mono ?_
  rintro e w1 ⟨rfl, n2, rfl⟩
  go_wp2_with fail
  refine (lowest_any _ _ _).mono ?_
  rintro e w1 ⟨rfl, n3, rfl⟩
  go_wp2_with fail
  refine (refless_any _ _ _ _ _ HBb.out HDd.out).mono ?_
  rintro e w4 ⟨rfl, hb4⟩
  have HB : Hid (Below w.heap.size w w4) := ((Below.refl _ w).alloc (Nat.le_refl _) _).trans (((bel_drewN _ _ _).trans hb4).mono (by simp))
  clear hb4
  go_wp2_with fail
  go_ret
  exact ⟨rfl, HB.out⟩

set_option maxHeartbeats 1000000 in
theorem walk_same (a b c d : Int) (w : World) (hb : 0 < b) (hd : 0 < d) (h1 : ls a b c d = false) (h2 : ls c d a b = false) (h3 : (lo1 a b == lo1 c d) = true) (h4 : (lo2 a b == lo2 c d) = true) :
    Calls Try.prog 7 #[.agg #[.int .i64 a, .int .i64 b, .int .i64 c, .int .i64 d]] w fun e w' => e = .returned (.bool true) ∧ Below w.heap.size w w' := by
  have g1 : decide (b ≤ 0) = false := by simp; omega
  have g2 : decide (d ≤ 0) = false := by simp; omega
  have HBb := hidq hb
  have HDd := hidq hd
  clear hb hd
  go_enter Try.func7, Try.ntmps7
  go_wp2_with fail
  refine (awake_any _).mono ?_
  rintro e w' ⟨rfl, n, rfl⟩
  go_wp2_with fail
  go_quiet (fail)
  go_wp2_with fail
  refine (less_any _ _ _ _ _).mono ?_
  rintro e w1 ⟨rfl, hw1⟩
  subst w1
  go_wp2_with fail
  refine (less_any _ _ _ _ _).mono ?_
  rintro e w1 ⟨rfl, hw1⟩
  subst w1
  go_wp2_with fail
  refine (lowest_any _ _ _).mono ?_
  rintro e w1 ⟨rfl, n2, rfl⟩
  go_wp2_with fail
  refine (lowest_any _ _ _).mono ?_
  rintro e w1 ⟨rfl, n3, rfl⟩
  go_wp2_with fail
  refine (refless_any _ _ _ _ _ HBb.out HDd.out).mono ?_
  rintro e w4 ⟨rfl, hb4⟩
  have HB : Hid (Below w.heap.size w w4) := ((Below.refl _ w).alloc (Nat.le_refl _) _).trans (((bel_drewN _ _ _).trans hb4).mono (by simp))
  clear hb4
  go_wp2_with fail
  go_ret
  exact ⟨rfl, HB.out⟩

theorem walk (a b c d : Int) (w : World) :
    Calls Try.prog 7 #[.agg #[.int .i64 a, .int .i64 b, .int .i64 c, .int .i64 d]] w fun e w' => e = .returned (.bool true) ∧ Below w.heap.size w w' := by
  by_cases h : b ≤ 0 ∨ d ≤ 0
  · exact walk_none a b c d w h
  · have hb : 0 < b := by omega
    have hd : 0 < d := by omega
    have hs := lowest_same a b c d hb hd
    cases h1 : ls a b c d with
    | true =>
      have h2 := ls_not_both a b c d h1
      by_cases h3 : lo1 a b = lo1 c d
      · have h4 : ¬ lo2 a b = lo2 c d := fun h4 => by have := hs.1 ⟨h3, h4⟩; rw [h1] at this; cases this.1
        exact walk_less2 a b c d w hb hd h1 h2 (by simpa using h3) (by simpa using h4)
      · exact walk_less a b c d w hb hd h1 h2 (by simpa using h3)
    | false =>
      cases h2 : ls c d a b with
      | true =>
        by_cases h3 : lo1 a b = lo1 c d
        · have h4 : ¬ lo2 a b = lo2 c d := fun h4 => by have := hs.1 ⟨h3, h4⟩; rw [h2] at this; cases this.2
          exact walk_more2 a b c d w hb hd h1 h2 (by simpa using h3) (by simpa using h4)
        · exact walk_more a b c d w hb hd h1 h2 (by simpa using h3)
      | false =>
        obtain ⟨h3, h4⟩ := hs.2 ⟨h1, h2⟩
        exact walk_same a b c d w hb hd h1 h2 (by simpa using h3) (by simpa using h4)

/-! ### The row's step -/
set_option maxHeartbeats 400000 in
set_option maxRecDepth 100000 in
theorem lifted (os : Os) (started : os.Started) (H : Type) (enc : TypeId × Value → H) :
    ReturnsInHanded {} Try.checked os 7 .any (Rows.scaledOrdersSpec.pre6 enc Try.prog Try.f7 Rows.scaledOrdersRow.domain false) (Rows.scaledOrdersSpec.post enc Try.prog Try.f7 false true false false) := by
  refine returnsInHanded_of_change (C := Try.checked) own started (by kernel_rfl) Try.func7
    (ChangeSpec.witness6 (enc := enc) (C := Try.checked) false ⟨#[], #[.agg #[.int .i64 0, .int .i64 0, .int .i64 0, .int .i64 0]], []⟩ 8 (by kernel_rfl) (by kernel_rfl) (by kernel_rfl) (by kernel_rfl)) ?_
  intro W base args ds gs before hval0 hW _ _
  have hval : ∀ (j : Nat) t v, Try.f7.params[j]? = some t → args[j]? = some v → Value.okWide Try.prog W .any base t v := hval0
  have hW' := hW
  obtain ⟨p, q, hA0, hV, rfl, _, _⟩ := hW
  have hA : DataW.TrodAll enc Try.prog W 0 (fun _ => true) true Try.f7.params.toList args.toList ds p := hA0
  rw [Try.params7] at hA hval
  obtain ⟨v0, d0, rfl, rfl, h0⟩ := trodAll_one hA
  obtain ⟨rfl, rfl⟩ := trodVars_none hV
  obtain ⟨cs, rfl, hsz, _⟩ : ∃ cs, v0 = .agg cs ∧ cs.size = Try.prog.cellsOf 33 ∧ Row.okWide Try.prog W .any base 33 cs := by
    have := hval 0 33 v0 rfl rfl
    simpa [Value.okWide, Try.underlying33] using this
  rw [cells33] at hsz
  obtain ⟨l⟩ := cs
  obtain ⟨c0, c1, c2, c3, rfl⟩ := list4 l hsz
  obtain ⟨fuel, hf⟩ := h0
  obtain ⟨y0, y1, y2, y3, m, hx, hy0, hy1, hy2, hy3⟩ := trod_array4 Try.underlying33 cells3 hf
  obtain ⟨x0, e0, rfl, w0⟩ := DataW.trod_int Try.underlying3 hy0
  obtain ⟨x1, e1, rfl, w1⟩ := DataW.trod_int Try.underlying3 hy1
  obtain ⟨x2, e2, rfl, w2⟩ := DataW.trod_int Try.underlying3 hy2
  obtain ⟨x3, e3, rfl, w3⟩ := DataW.trod_int Try.underlying3 hy3
  simp at e0 e1 e2 e3
  subst e0 e1 e2 e3
  simp only [Prod.mk.injEq] at hx
  obtain ⟨rfl, rfl⟩ := hx
  clear hA0 hval0
  simp only [List.append_nil] at hW'
  refine (walk x0 x1 x2 x3 W).mono fun e W' ⟨he, hg⟩ => ?_
  subst he
  have rdA : ∀ sp : Nat → Bool, DataW.Trod enc Try.prog W' 0 sp true 33 (.agg #[.int .i64 x0, .int .i64 x1, .int .i64 x2, .int .i64 x3]) (DataW.agg [.lit (.int .i64 x0), .lit (.int .i64 x1), .lit (.int .i64 x2), .lit (.int .i64 x3)]) [] := fun sp => ⟨2, by simp [DataW.trod, Value.cells, Try.underlying33, Try.underlying3, cells33, cells3, w0, w1, w2, w3, show List.range 4 = [0, 1, 2, 3] from rfl]⟩
  exact ⟨_, rfl, _, _, _, [], [], [], hW', trodAll_mk1 (shut_bool Try.underlying4 _), trodAll_mk1 (rdA _), rfl, hg.frame _, fun h => by cases h⟩

theorem over : Rows.scaledOrdersRow.holds Try.pinned (OpenSpec.ofChange Rows.scaledOrdersSpec) :=
  OpenClaim.holds_of_wide 7 Try.f7 rfl rfl rfl rfl rfl rfl rfl ⟨rfl, rfl, rfl, rfl, rfl⟩ rfl rfl rfl rfl rfl (by kernel_rfl) Try.func7 (by kernel_rfl)
    (of_decide_eq_true (by kernel_rfl)) (by unfold Func.isWrapper; first | (rw [if_pos (by decide +kernel)]; kernel_rfl) | (rw [if_neg (by decide +kernel)]; exact ⟨rfl, rfl⟩))
    (fun os started H enc _ => lifted os started H enc)

/-- The statement. -/
theorem proved : Rows.ScaledOrdersSaid :=
  over
#print axioms proved
end Go.Proofs.Ytkpikienkmdcaaa.scaledOrders
