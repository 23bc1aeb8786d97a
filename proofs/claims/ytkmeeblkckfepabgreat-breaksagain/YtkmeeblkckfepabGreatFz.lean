/-
  What the document's Same answers of breakings that are alike.
-/
import Derived.Test.YtkmeeblkckfepabGreatFy
namespace Go.Proofs.YtkmeeblkckfepabGreat
open Go.RowKit
set_option linter.unusedSimpArgs false
set_option linter.unusedVariables false

set_option maxRecDepth 100000 in
set_option maxHeartbeats 4000000 in
theorem same9_any (S S' : Nat → Prop) (ao bo : Option Addr) (L : List Nat) (ca cb : Nat) (T : Int) (em : Bool) (w : World) (ha : NAt S w ao L) (hb : NAt S' w bo L) (hm : L.length ≤ 262144) :
    Calls Tryz.prog 8 #[.agg #[.slice ao L.length ca, .int .i64 T, .bool em], .agg #[.slice bo L.length cb, .int .i64 T, .bool em]] w fun e w' => e = .returned (.bool true) ∧ Below w.heap.size w w' := by
  have HA := boxed ha
  have HB := boxed hb
  clear ha hb
  obtain ⟨q0, q1, q2, q3⟩ := laid2 w (.cells #[.slice ao L.length ca, .int .i64 T, .bool em] 33) (.cells #[.slice bo L.length cb, .int .i64 T, .bool em] 33)
  obtain ⟨⟨x0, x1, x2⟩, -⟩ := cells3 q0
  obtain ⟨⟨y0, y1, y2⟩, -⟩ := cells3 q1
  have HW := boxed q2
  have HN : Box (∀ i, i < L.length → ∃ g g', ao = some ⟨g, 0, none⟩ ∧ bo = some ⟨g', 0, none⟩ ∧ ((w.alloc (.cells #[.slice ao L.length ca, .int .i64 T, .bool em] 33)).alloc (.cells #[.slice bo L.length cb, .int .i64 T, .bool em] 33)).cell? ⟨g, i, none⟩ = some (.int .i64 (L.getD i 0 : Nat)) ∧ ((w.alloc (.cells #[.slice ao L.length ca, .int .i64 T, .bool em] 33)).alloc (.cells #[.slice bo L.length cb, .int .i64 T, .bool em] 33)).cell? ⟨g', i, none⟩ = some (.int .i64 (L.getD i 0 : Nat))) := boxed (fun i hi => by
    obtain ⟨g, e, -, h1⟩ := HA.out i hi
    obtain ⟨g', e', -, h2⟩ := HB.out i hi
    exact ⟨g, g', e, e', hold q2 h1, hold q2 h2⟩)
  clear q0 q1 q2 q3 HA HB
  generalize hM : L.length = M at *
  replace hM := boxed hM
  go_enter Tryz.func8, Tryz.ntmps8
  go_wp2_with fail
  generalize hW0 : ((w.alloc (.cells #[.slice ao M ca, .int .i64 T, .bool em] 33)).alloc (.cells #[.slice bo M cb, .int .i64 T, .bool em] 33)) = W0 at *
  clear hW0
  have HX0 := boxed x0
  have HY0 := boxed y0
  clear x0 x1 x2 y0 y1 y2
  go_loopw [5] (fun iv wr => ∃ i : Nat, i ≤ M ∧ iv = .int .i64 (i : Int) ∧ Box (Below W0.heap.size W0 wr)) (fun iv _ => M - (intOf iv).toNat)
  case atStart => exact ⟨0, Nat.zero_le _, rfl, boxed (Below.refl _ _)⟩
  case round =>
    obtain ⟨i, hi, rfl, HBr⟩ := hrel
    have x0 := hold HBr.out HX0.out
    have y0 := hold HBr.out HY0.out
    by_cases hlt : i < M
    · obtain ⟨g, g', rfl, rfl, h1, h2⟩ := HN.out i hlt
      replace h1 := hold HBr.out h1
      replace h2 := hold HBr.out h2
      have t1 : decide ((i : Int) < (M : Int)) = true := decide_eq_true (by omega)
      have t1' : decide (i < M) = true := decide_eq_true hlt
      clear HN HX0 HY0
      generalize L.getD i 0 = z at *
      go_wp2_with fail
      go_quiet (fail)
      have HB2 : Box (Below W0.heap.size W0 (wr.drewN nq)) := boxed (HBr.out.trans (bel_drewN _ _ _))
      go_wp2_with fail
      go_roundw
      case rel => exact ⟨i + 1, by omega, by go_num, HB2⟩
      case measure => simp [intOf]; omega
    · have e : i = M := by omega
      subst e
      go_wp2_with fail
      go_ret
      exact ⟨rfl, HW.out.trans (HBr.out.mono HW.out.size)⟩
end Go.Proofs.YtkmeeblkckfepabGreat
