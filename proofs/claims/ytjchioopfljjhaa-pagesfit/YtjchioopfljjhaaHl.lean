/-
  What the statements' own tried answers.
-/
import Derived.Test.YtjchioopfljjhaaHh
import Derived.Test.YtjchioopfljjhaaHd
namespace Go.Proofs.Ytjchioopfljjhaa
open Go.RowKit
set_option linter.unusedSimpArgs false
set_option linter.unusedVariables false

def trB (n : Nat) (R : Bool) (H : Int) (g : Stg) : Bool := decide (n ≤ 200) && R && ckB H g
theorem trB_iff (n : Nat) (R : Bool) (H : Int) (g : Stg) : trB n R H g = true ↔ n ≤ 200 ∧ R = true ∧ ckE H g = 0 := by
  unfold trB ckB ckE
  simp only [Bool.and_eq_true, decide_eq_true_eq]
  constructor
  · rintro ⟨⟨h1, h2⟩, ⟨h3, h4⟩, h5⟩
    exact ⟨h1, h2, by rw [if_pos ⟨h3, h4⟩, if_pos h5]⟩
  · rintro ⟨h1, h2, h3⟩
    split at h3
    · next q =>
      split at h3
      · next q2 => exact ⟨⟨h1, h2⟩, q, q2⟩
      · omega
    · omega
set_option maxRecDepth 100000 in
set_option maxHeartbeats 1000000 in
theorem tried_any (S : Nat → Prop) (ao : Option Addr) (n cap : Nat) (F : Nat → Slt) (R : Bool) (hR : R = true ↔ Rts F n 0) (H : Int) (g : Stg) (w : World) (h : SltsAt S w ao n F) (hn : n ≤ maxLen) :
    Calls Try.prog 17 #[.slice ao n cap, .int .i64 H, g.val] w fun e w' => e = .returned (.bool (trB n R H g)) ∧ Below w.heap.size w w' := by
  obtain ⟨W0, hW0⟩ : ∃ W0, w.alloc (.cells #[.int .i64 g.t, .int .i64 g.l, .int .i64 g.a, .int .i64 g.d, .int .i64 g.z, .int .i64 g.o, .int .i64 g.i] 24) = W0 := ⟨_, rfl⟩
  have hst := stc_new w g
  have hB0 := (laid1 w (.cells #[.int .i64 g.t, .int .i64 g.l, .int .i64 g.a, .int .i64 g.d, .int .i64 g.z, .int .i64 g.o, .int .i64 g.i] 24)).2.1
  rw [hW0] at hst hB0
  have HS := boxed hst
  have HB0 := boxed hB0
  have HW0 := boxed hW0
  have hN : (n : Int) ≤ 9223372036854775807 := by unfold maxLen at hn; omega
  unfold trB
  by_cases hl : n ≤ 200
  · have hr := refright_any S ao n cap F R hR W0 (h.below hB0) (by omega)
    have hc := fun W => refcheck_any H g W
    have e1 : decide (n ≤ 200) = true := decide_eq_true hl
    rw [e1, Bool.true_and]
    have t1 : decide ((n : Int) ≤ 200) = true := decide_eq_true (by omega)
    clear h hst hB0 hW0 e1 hR
    generalize ckB H g = C at *
    unfold Stg.val at *
    go_enter Try.func17, Try.ntmps17
    go_upto_region 1 with fail
    rw [HW0.out]
    go_wp2_with fail
    refine hr.mono ?_
    rintro e w1 ⟨rfl, hb1⟩
    obtain ⟨s0, s1, s2, s3, s4, s5, s6⟩ := HS.out.below hb1
    have HB1 := boxed (below_step HB0.out (Nat.le_refl _) hb1)
    clear hb1 hr
    cases R with
    | false =>
      go_wp2_with fail
      go_ret
      exact ⟨rfl, HB1.out⟩
    | true =>
      go_wp2_with fail
      refine (hc _).mono ?_
      rintro e w2 ⟨rfl, hb2⟩
      have HB2 := boxed (below_step HB1.out (Nat.le_refl _) hb2)
      clear hb2 hc
      go_wp2_with fail
      go_ret
      exact ⟨by simp, HB2.out⟩
  · have e1 : decide (n ≤ 200) = false := decide_eq_false hl
    rw [e1]
    have t1 : decide ((n : Int) ≤ 200) = false := decide_eq_false (by omega)
    clear h hst hB0 hW0 e1 hR hl
    unfold Stg.val at *
    go_enter Try.func17, Try.ntmps17
    go_upto_region 1 with fail
    rw [HW0.out]
    go_wp2_with fail
    go_ret
    exact ⟨by simp, HB0.out⟩
end Go.Proofs.Ytjchioopfljjhaa
