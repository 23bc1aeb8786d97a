/-
  What the document's Legal and Start answer; what the statements' para does.
-/
import Derived.Test.YtkoaoejlbkdkgabEv
import Derived.Test.YtkoaoejlbkdkgabJe
import Derived.Test.YtkoaoejlbkdkgabJi
import Derived.Lib.QuietBelow
import Derived.BigQuiet
namespace Go.Proofs.Ytkoaoejlbkdkgab
open Go.RowKit
set_option linter.unusedSimpArgs false
set_option linter.unusedVariables false

set_option maxRecDepth 100000 in
set_option maxHeartbeats 2000000 in
theorem para_none (S : Nat → Prop) (ao : Option Addr) (n c : Nat) (I : Nat → Itm) (w : World) (h : ItsAt S w ao n I) (hn : n ≤ maxLen) (hr : 400 < n ∨ rgt I n = false) :
    Calls Try.prog 11 #[.slice ao n c] w fun e w' => e = .returned (.pointer none) ∧ Below w.heap.size w w' := by
  by_cases c4 : 400 < n
  · have t1 : decide ((400 : Int) < (n : Int)) = true := decide_eq_true (by omega)
    unfold maxLen at hn
    clear h
    go_enter Try.func11, Try.ntmps11
    go_wp2_with fail
    go_ret
    exact ⟨rfl, Below.refl _ _⟩
  · have hR := refright7_any S ao n c I w h hn
    have hf : rgt I n = false := by rcases hr with h | h; exact absurd h c4; exact h
    rw [hf] at hR
    have t1 : decide ((400 : Int) < (n : Int)) = false := decide_eq_false (by omega)
    clear h hn
    have hn2 : n ≤ 400 := by omega
    go_enter Try.func11, Try.ntmps11
    go_wp2_with fail
    refine hR.mono ?_
    rintro e w1 ⟨rfl, hb⟩
    have HB := boxed hb
    clear hb hR
    go_wp2_with fail
    go_ret
    exact ⟨rfl, HB.out⟩
set_option maxRecDepth 100000 in
set_option maxHeartbeats 2000000 in
theorem para_some (S : Nat → Prop) (ao : Option Addr) (n c : Nat) (I : Nat → Itm) (w : World) (h : ItsAt S w ao n I) (hn : n ≤ 400) (hr : rgt I n = true) :
    Calls Try.prog 11 #[.slice ao n c] w fun e w' => ∃ pb, e = .returned (.pointer (some ⟨pb, 0, none⟩)) ∧ ParaAt (fun b => w.heap.size ≤ b) w' pb n I ∧ Below w.heap.size w w' := by
  have hR := refright7_any S ao n c I w h (by unfold maxLen; omega)
  rw [hr] at hR
  have hN := boxed (fun W (hb : Below w.heap.size w W) => new_any S ao n c I W (h.below hb) (by unfold maxLen; omega) hr)
  have t1 : decide ((400 : Int) < (n : Int)) = false := decide_eq_false (by omega)
  clear h hr
  go_enter Try.func11, Try.ntmps11
  go_wp2_with fail
  refine hR.mono ?_
  rintro e w1 ⟨rfl, hb⟩
  have HB := boxed hb
  clear hb hR
  go_wp2_with fail
  refine (hN.out _ HB.out).mono ?_
  rintro e w2 ⟨pb, rfl, hP, hb2⟩
  have HP := boxed (hP.keep (kp_more (S' := fun b => w.heap.size ≤ b) (fun b hb => Nat.le_trans HB.out.size hb) (Below.refl _ _)))
  have HB2 := boxed (below_step HB.out (Nat.le_refl _) hb2)
  clear hP hb2
  go_wp2_with fail
  go_ret
  exact ⟨pb, rfl, HP.out, HB2.out⟩
end Go.Proofs.Ytkoaoejlbkdkgab
