/-
  What '==' and '!=' say of two items; what the document's Same answers.
-/
import Derived.Test.YteckbkcngkppmaaJb
import Derived.Laws.StructEq
import Derived.BigRegion
namespace Go.Proofs.Yteckbkcngkppmaa
open Go.RowKit
set_option linter.unusedSimpArgs false
set_option linter.unusedVariables false

theorem guardI : Try.prog.eqGuardType Try.prog.depth 40 = false := by kernel_rfl
set_option maxHeartbeats 2000000 in
theorem eqItem (x y : Itm) (w : World) : (Op.equalIn 10000 40 x.val y.val).run Try.prog w = .ok (x.like y) w := by
  obtain ⟨a1, a2, a3, a4, a5, a6, a7, a8, a9⟩ := x
  obtain ⟨b1, b2, b3, b4, b5, b6, b7, b8, b9⟩ := y
  have u3 := Try.underlying3
  have u4 := Try.underlying4
  have hS : Try.prog.underlying 40 = some (.struct (Try.prog.fieldsOf 40)) := by kernel_rfl
  have hp : Try.prog.stoodInHeld 40 = false := by kernel_rfl
  simp only [Itm.val, Itm.like]
  rw [show (10000 : Nat) = 9999 + 1 from rfl, run_equalIn_agg w 9999 40 _ _ hS hp]
  simp only [Program.fieldsOf, Try.underlying40]
  go_simp
  by_cases h1 : a1 = b1
  rotate_left
  · simp [h1]
  by_cases h2 : a2 = b2
  rotate_left
  · simp [h1, h2]
  by_cases h3 : a3 = b3
  rotate_left
  · simp [h1, h2, h3]
  by_cases h4 : a4 = b4
  rotate_left
  · simp [h1, h2, h3, h4]
  by_cases h5 : a5 = b5
  rotate_left
  · simp [h1, h2, h3, h4, h5]
  by_cases h6 : a6 = b6
  rotate_left
  · simp [h1, h2, h3, h4, h5, h6]
  by_cases h7 : a7 = b7
  rotate_left
  · simp [h1, h2, h3, h4, h5, h6, h7]
  by_cases h8 : a8 = b8
  rotate_left
  · simp [h1, h2, h3, h4, h5, h6, h7, h8]
  by_cases h9 : a9 = b9
  · simp [h1, h2, h3, h4, h5, h6, h7, h8, h9]
  · simp [h1, h2, h3, h4, h5, h6, h7, h8, h9]
theorem neqItem (x y : Itm) (w : World) : (binOp .neq 40 x.val y.val).run Try.prog w = .ok (.bool (!x.like y)) w := by
  have := eqItem x y w
  simp only [Itm.val] at *
  rw [run_neq_struct, this]
  rfl
theorem eqlItem (x y : Itm) (w : World) : (binOp .eql 40 x.val y.val).run Try.prog w = .ok (.bool (x.like y)) w := by
  have := eqItem x y w
  simp only [Itm.val] at *
  rw [run_eql_struct, this]
  rfl
theorem guardItem (op : BinOp) (x y : Operand) (xs ys : Array Value) (w : World) : (eqGuard op 40 x y (.agg xs) (.agg ys)).run Try.prog w = .ok () w := run_eqGuard_agg w op 40 x y xs ys guardI

/-- Are two lists of items alike? -/
def smI (I J : Nat → Itm) (n m : Nat) : Bool := decide (n = m) && (List.range n).all fun i => (I i).like (J i)
theorem smI_iff (I J : Nat → Itm) (n m : Nat) : smI I J n m = true ↔ n = m ∧ ∀ i, i < n → (I i).like (J i) = true := by
  simp [smI, List.all_eq_true]
theorem smI_no (I J : Nat → Itm) (n m : Nat) (h : ¬ (n = m ∧ ∀ i, i < n → (I i).like (J i) = true)) : smI I J n m = false := by
  cases e : smI I J n m with
  | false => rfl
  | true => exact absurd ((smI_iff I J n m).1 e) h

set_option maxRecDepth 100000 in
set_option maxHeartbeats 4000000 in
theorem same_any (S : Nat → Prop) (ao : Option Addr) (n cap : Nat) (I : Nat → Itm) (bo : Option Addr) (m cbp : Nat) (J : Nat → Itm) (w : World) (h : ItsAt S w ao n I) (h' : ItsAt S w bo m J) (hn : n ≤ maxLen) (hm : m ≤ maxLen) :
    Calls Try.prog 14 #[.slice ao n cap, .slice bo m cbp] w fun e w' => e = .returned (.bool (smI I J n m)) ∧ Below w.heap.size w w' := by
  unfold maxLen at hn hm
  have HT := boxed (smI_iff I J n m).2
  have HFl := boxed (smI_no I J n m)
  generalize smI I J n m = V at *
  by_cases hnm : n = m
  rotate_left
  · have HV := boxed (HFl.out (fun c => hnm c.1))
    have t0 : ((n : Int) != (m : Int)) = true := by simp; omega
    have t0' : (n != m) = true := by simp; omega
    clear h h' hnm
    go_enter Try.func14, Try.ntmps14
    go_wp2
    go_ret
    exact ⟨ret_bool HV.out.symm, Below.refl _ _⟩
  subst hnm
  have HH := boxed h
  have HH' := boxed h'
  have hnq := fun x y w => neqItem x y w
  have hgq := guardItem
  simp only [Itm.val] at hnq
  clear h h'
  go_enter Try.func14, Try.ntmps14
  go_wp2
  go_loopw [5] (fun i wr => ∃ k : Nat, k ≤ n ∧ i = .int .i64 (k : Int) ∧ Box (∀ j, j < k → (I j).like (J j) = true) ∧ Box (Below w.heap.size w wr)) (fun i _ => n - (intOf i).toNat)
  case atStart => exact ⟨0, Nat.zero_le _, rfl, boxed (fun j hj => by omega), boxed (Below.refl _ _)⟩
  case round =>
    obtain ⟨k, hk, rfl, HK, HB⟩ := hrel
    by_cases hlt : k < n
    · obtain ⟨b, off, e, -, c0, c1, c2, c3, c4, c5, c6, c7, c8⟩ := (HH.out.below HB.out) k hlt
      obtain ⟨b', off', e', -, d0, d1, d2, d3, d4, d5, d6, d7, d8⟩ := (HH'.out.below HB.out) k hlt
      subst e; subst e'
      have t3 : decide ((k : Int) < (n : Int)) = true := decide_eq_true (by omega)
      have hq := fun w => hnq (I k) (J k) w
      have HBad : Box ((I k).like (J k) = false → V = false) := boxed (fun c => HFl.out (fun h => by have := h.2 k hlt; rw [c] at this; cases this))
      have HNx : Box ((I k).like (J k) = true → ∀ j, j < k + 1 → (I j).like (J j) = true) := boxed (fun c j hj => by
        by_cases d : j = k
        · subst d; exact c
        · exact HK.out j (by omega))
      clear hnq
      generalize (I k).like (J k) = E at *
      generalize I k = x at *
      generalize J k = y at *
      cases E
      · have HV := boxed (HBad.out rfl)
        simp only [Bool.not_false] at hq
        go_wp2_with fail
        go_quiet (fail)
        go_wp2
        go_ret
        exact ⟨ret_bool HV.out.symm, HB.out.trans (bel_drewN _ _ _)⟩
      · have HN1 := boxed (HNx.out rfl)
        simp only [Bool.not_true] at hq
        go_wp2_with fail
        go_quiet (fail)
        have HB2 : Box (Below w.heap.size w (wr.drewN nq)) := boxed (HB.out.trans (bel_drewN _ _ _))
        generalize wr.drewN nq = w7 at *
        go_wp2
        go_roundw
        case rel => exact ⟨k + 1, by omega, by go_num, HN1, HB2⟩
        case measure => simp [intOf]; omega
    · have e : k = n := by omega
      subst e
      have HV := boxed (HT.out ⟨by simp, HK.out⟩)
      go_wp2
      go_ret
      exact ⟨ret_bool HV.out.symm, HB.out⟩
end Go.Proofs.Yteckbkcngkppmaa
