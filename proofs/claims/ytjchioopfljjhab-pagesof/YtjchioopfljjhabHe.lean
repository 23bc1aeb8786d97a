/-
  What the program's mayEndAt and the document's Cut and High answer.
-/
import Derived.Test.YtjchioopfljjhabHc
namespace Go.Proofs.Ytjchioopfljjhab
open Go.RowKit
set_option linter.unusedSimpArgs false
set_option linter.unusedVariables false

theorem Dc.cut_last (D : Dc) (k : Nat) (h : k + 1 = D.n) : D.cut (k + 1) = true := by rw [h]; exact D.cut_end
theorem Dc.cut_may (D : Dc) (k : Nat) (h : k + 1 < D.n) : D.cut (k + 1) = may (D.F k) D.o D.v := by
  unfold Dc.cut
  have h1 : ¬ k + 1 = D.n := by omega
  simp [h1, h]
set_option maxRecDepth 100000 in
set_option maxHeartbeats 1000000 in
theorem mayend_any (D : Dc) (g : Stg) (ho : g.o = D.o) (hv : g.i = D.v) (hg : I64 g.o ∧ I64 g.i) (S : Nat → Prop) (ao : Option Addr) (c line : Nat) (w : World) (h : SltsAt S w ao D.n D.F) (hl : line < D.n) (hn : D.n ≤ 1000000) :
    Calls Try.prog 21 #[.slice ao D.n c, .int .i64 (line : Nat), g.val] w fun e w' => e = .returned (.bool (D.cut (line + 1))) ∧ Below w.heap.size w w' := by
  obtain ⟨b, off, rfl, hbw, -⟩ := h.form (by omega)
  by_cases hlast : line + 1 = D.n
  · rw [D.cut_last _ hlast]
    generalize D.n = n at *
    subst hlast
    clear h ho hv
    unfold Stg.val
    have t1 : ((line : Int) == (line : Int) + 1 - 1) = true := by simp
    have hun : undef = Value.tuple #[] := rfl
    go_enter Try.func21, Try.ntmps21
    go_wp2_with fail
    go_quiet (fail)
    go_wp2_with fail
    go_ret
    exact ⟨rfl, ((Below.refl _ w).alloc (Nat.le_refl _) _).trans (bel_drewN _ _ _)⟩
  · rw [D.cut_may _ (by omega), ← ho, ← hv]
    obtain ⟨W0, hW0⟩ : ∃ W0, w.alloc (.cells #[.int .i64 g.t, .int .i64 g.l, .int .i64 g.a, .int .i64 g.d, .int .i64 g.z, .int .i64 g.o, .int .i64 g.i] 43) = W0 := ⟨_, rfl⟩
    have hst := stc_new w g
    have hB0 := (laid1 w (.cells #[.int .i64 g.t, .int .i64 g.l, .int .i64 g.a, .int .i64 g.d, .int .i64 g.z, .int .i64 g.o, .int .i64 g.i] 43)).2.1
    rw [hW0] at hst hB0
    have hm := fun w => may_any (D.F line) g (h line hl).1.2 hg w
    obtain ⟨c0, c1, c2, c3⟩ := (h.below hB0).get line hl
    obtain ⟨s0, s1, s2, s3, s4, s5, s6⟩ := hst
    have vc0 := cell_regrown c0
    have vc1 := cell_regrown c1
    have vc2 := cell_regrown c2
    have vc3 := cell_regrown c3
    have vs0 := cell_regrown s0
    have vs1 := cell_regrown s1
    have vs2 := cell_regrown s2
    have vs3 := cell_regrown s3
    have vs4 := cell_regrown s4
    have vs5 := cell_regrown s5
    have vs6 := cell_regrown s6
    clear h c0 c1 c2 c3 s0 s1 s2 s3 s4 s5 s6
    generalize may (D.F line) g.o g.i = V at *
    generalize D.F line = x at *
    unfold Slt.val Stg.val at *
    have CM : Box (∀ d os, Calls Try.prog 24 #[.agg #[.int .i64 x.h, .int .i64 x.i, .int .i64 x.c, .bool x.k], .agg #[.int .i64 g.t, .int .i64 g.l, .int .i64 g.a, .int .i64 g.d, .int .i64 g.z, .int .i64 g.o, .int .i64 g.i]] (Go.Sort.grow (redrawn W0 d) os) fun e w'' => e = .returned (.bool V) ∧ ∃ p : Regrown, w'' = Go.Sort.grow (redrawn W0 p.d) p.os) := boxed (fun d os => Calls.regrown_of (hm _))
    have HBx : Box (∀ d os, Below w.heap.size w (Go.Sort.grow (redrawn W0 d) os)) := boxed (fun d os => below_step hB0 (Nat.le_refl _) (below_regrown W0 d os))
    have HW0 := boxed hW0
    clear hm hB0 hW0
    generalize D.n = n at *
    have hl2 : (line : Int) < (n : Int) := by omega
    have t1 : ((line : Int) == (n : Int) - 1) = false := by simp; omega
    have hun : undef = Value.tuple #[] := rfl
    clear hlast ho hv hg
    go_enter Try.func21, Try.ntmps21
    go_upto_region 1 with fail
    rw [HW0.out]
    refine wp_region_quiet_below (by kernel_rfl) (by kernel_rfl) ?_
    repeat (go_big_quiet_step (first | (go_at_call 24; exact CM.out _ _)))
    refine wpQuiet_nil ?_
    intro _ hw'
    obtain ⟨⟨dq, osq⟩, hw''⟩ := hw'
    subst hw''
    have HB6 := boxed (HBx.out dq osq)
    clear HBx CM vc0 vc1 vc2 vc3 vs0 vs1 vs2 vs3 vs4 vs5 vs6
    generalize Go.Sort.grow (redrawn W0 dq) osq = w5 at *
    go_wp2_with fail
    go_ret
    exact ⟨rfl, HB6.out⟩
end Go.Proofs.Ytjchioopfljjhab
