/-
  What the program's mayEndAt and the document's Cut and High answer.
-/
import Derived.Test.YtdpjaafdpgkclaaHc
namespace Go.Proofs.Ytdpjaafdpgkclaa
open Go.RowKit
set_option linter.unusedSimpArgs false
set_option linter.unusedVariables false

theorem Dc.cut_last (D : Dc) (k : Nat) (h : k + 1 = D.n) : D.cut (k + 1) = true := by rw [h]; exact D.cut_end
theorem Dc.cut_may (D : Dc) (k : Nat) (h : k + 1 < D.n) : D.cut (k + 1) = may (D.F k) D.o D.v := by
  unfold Dc.cut
  have h1 : ¬ k + 1 = D.n := by omega
  simp [h1, h]
set_option maxRecDepth 100000 in
set_option maxHeartbeats 1000000 in
theorem mayend_any (D : Dc) (g : Stg) (ho : g.o = D.o) (hv : g.i = D.v) (hg : I64 g.o ∧ I64 g.i) (S : Nat → Prop) (ao : Option Addr) (c line : Nat) (w : World) (h : SltsAt S w ao D.n D.F) (hl : line < D.n) (hn : D.n ≤ 1000000) :
    Calls Try.prog 48 #[.slice ao D.n c, .int .i64 (line : Nat), g.val] w fun e w' => e = .returned (.bool (D.cut (line + 1))) ∧ Below w.heap.size w w' := by
  obtain ⟨b, off, rfl, hbw, -⟩ := h.form (by omega)
  by_cases hlast : line + 1 = D.n
  · rw [D.cut_last _ hlast]
    generalize D.n = n at *
    subst hlast
    clear h ho hv
    unfold Stg.val
    have t1 : ((line : Int) == (line : Int) + 1 - 1) = true := by simp
    have hun : undef = Value.tuple #[] := rfl
    go_enter Try.func48, Try.ntmps48
    go_wp2_with fail
    go_quiet (fail)
    go_wp2_with fail
    go_ret
    exact ⟨rfl, ((Below.refl _ w).alloc (Nat.le_refl _) _).trans (bel_drewN _ _ _)⟩
  · rw [D.cut_may _ (by omega), ← ho, ← hv]
    obtain ⟨W0, hW0⟩ : ∃ W0, w.alloc (.cells #[.int .i64 g.t, .int .i64 g.l, .int .i64 g.a, .int .i64 g.d, .int .i64 g.z, .int .i64 g.o, .int .i64 g.i] 24) = W0 := ⟨_, rfl⟩
    have hst := stc_new w g
    have hB0 := (laid1 w (.cells #[.int .i64 g.t, .int .i64 g.l, .int .i64 g.a, .int .i64 g.d, .int .i64 g.z, .int .i64 g.o, .int .i64 g.i] 24)).2.1
    rw [hW0] at hst hB0
    have hm := fun w => may_any (D.F line) g (h line hl).1.2 hg w
    obtain ⟨c0, c1, c2, c3⟩ := (h.below hB0).get line hl
    obtain ⟨s0, s1, s2, s3, s4, s5, s6⟩ := hst
    have vc0 := cell_regrown c0
    have vc1 := cell_regrown c1
    have vc2 := cell_regrown c2
    have vc3 := cell_regrown c3
    have vs0 := cell_regrown s0
    have vs1 := cell_regrown s1
    have vs2 := cell_regrown s2
    have vs3 := cell_regrown s3
    have vs4 := cell_regrown s4
    have vs5 := cell_regrown s5
    have vs6 := cell_regrown s6
    clear h c0 c1 c2 c3 s0 s1 s2 s3 s4 s5 s6
    generalize may (D.F line) g.o g.i = V at *
    generalize D.F line = x at *
    unfold Slt.val Stg.val at *
    have CM : Box (∀ d os, Calls Try.prog 59 #[.agg #[.int .i64 x.h, .int .i64 x.i, .int .i64 x.c, .bool x.k], .agg #[.int .i64 g.t, .int .i64 g.l, .int .i64 g.a, .int .i64 g.d, .int .i64 g.z, .int .i64 g.o, .int .i64 g.i]] (Go.Sort.grow (redrawn W0 d) os) fun e w'' => e = .returned (.bool V) ∧ ∃ p : Regrown, w'' = Go.Sort.grow (redrawn W0 p.d) p.os) := boxed (fun d os => Calls.regrown_of (hm _))
    have HBx : Box (∀ d os, Below w.heap.size w (Go.Sort.grow (redrawn W0 d) os)) := boxed (fun d os => below_step hB0 (Nat.le_refl _) (below_regrown W0 d os))
    have HW0 := boxed hW0
    clear hm hB0 hW0
    generalize D.n = n at *
    have hl2 : (line : Int) < (n : Int) := by omega
    have t1 : ((line : Int) == (n : Int) - 1) = false := by simp; omega
    have hun : undef = Value.tuple #[] := rfl
    clear hlast ho hv hg
    go_enter Try.func48, Try.ntmps48
    go_upto_region 1 with fail
    rw [HW0.out]
    refine wp_region_quiet_below (by kernel_rfl) (by kernel_rfl) ?_
    repeat (go_big_quiet_step (first | (go_at_call 59; exact CM.out _ _)))
    refine wpQuiet_nil ?_
    intro _ hw'
    obtain ⟨⟨dq, osq⟩, hw''⟩ := hw'
    subst hw''
    have HB6 := boxed (HBx.out dq osq)
    clear HBx CM vc0 vc1 vc2 vc3 vs0 vs1 vs2 vs3 vs4 vs5 vs6
    generalize Go.Sort.grow (redrawn W0 dq) osq = w5 at *
    go_wp2_with fail
    go_ret
    exact ⟨rfl, HB6.out⟩
set_option maxRecDepth 100000 in
set_option maxHeartbeats 1000000 in
theorem refcut_any (D : Dc) (g : Stg) (ho : g.o = D.o) (hv : g.i = D.v) (S : Nat → Prop) (ao : Option Addr) (c k : Nat) (w : World) (h : SltsAt S w ao D.n D.F) (hk : ∀ j, j < D.n → SltOk D.n (D.F j)) (hl : k ≤ D.n) (hn : D.n ≤ 1000) :
    Calls Try.prog 44 #[.slice ao D.n c, .int .i64 (k : Nat), g.val] w fun e w' => e = .returned (.bool (D.cut k)) ∧ Below w.heap.size w w' := by
  have hun : undef = Value.tuple #[] := rfl
  by_cases hlast : k = D.n
  · rw [hlast, D.cut_end]
    generalize D.n = n at *
    subst hlast
    clear h hk ho hv
    unfold Stg.val
    go_enter Try.func44, Try.ntmps44
    go_wp2_with fail
    go_quiet (fail)
    go_wp2_with fail
    go_ret
    exact ⟨rfl, ((Below.refl _ w).alloc (Nat.le_refl _) _).trans (bel_drewN _ _ _)⟩
  · have t1 : ((k : Int) == (D.n : Int)) = false := by rw [beq_eq_false_iff_ne]; omega
    by_cases h0 : k = 0
    · subst h0
      have e0 : D.cut 0 = false := by unfold Dc.cut; simp; omega
      rw [e0]
      clear e0 h hk ho hv hl
      generalize D.n = n at *
      have t2 : ((0 : Int) == (n : Int)) = false := by simpa using t1
      clear t1
      unfold Stg.val
      go_enter Try.func44, Try.ntmps44
      go_wp2_with fail
      go_quiet (fail)
      go_wp2_with fail
      go_ret
      exact ⟨rfl, ((Below.refl _ w).alloc (Nat.le_refl _) _).trans (bel_drewN _ _ _)⟩
    · obtain ⟨line, rfl⟩ : ∃ line, k = line + 1 := ⟨k - 1, by omega⟩
      rw [D.cut_may _ (by omega), ← ho, ← hv]
      obtain ⟨b, off, rfl, hbw, -⟩ := h.form (by omega)
      obtain ⟨W0, hW0⟩ : ∃ W0, w.alloc (.cells #[.int .i64 g.t, .int .i64 g.l, .int .i64 g.a, .int .i64 g.d, .int .i64 g.z, .int .i64 g.o, .int .i64 g.i] 24) = W0 := ⟨_, rfl⟩
      have hst := stc_new w g
      have hB0 := (laid1 w (.cells #[.int .i64 g.t, .int .i64 g.l, .int .i64 g.a, .int .i64 g.d, .int .i64 g.z, .int .i64 g.o, .int .i64 g.i] 24)).2.1
      rw [hW0] at hst hB0
      have hm := fun w => refmay_any D.n (by omega) (D.F line) g (hk line (by omega)) w
      obtain ⟨c0, c1, c2, c3⟩ := (h.below hB0).get line (by omega)
      obtain ⟨s0, s1, s2, s3, s4, s5, s6⟩ := hst
      have vc0 := cell_regrown c0
      have vc1 := cell_regrown c1
      have vc2 := cell_regrown c2
      have vc3 := cell_regrown c3
      have vs0 := cell_regrown s0
      have vs1 := cell_regrown s1
      have vs2 := cell_regrown s2
      have vs3 := cell_regrown s3
      have vs4 := cell_regrown s4
      have vs5 := cell_regrown s5
      have vs6 := cell_regrown s6
      clear h hk c0 c1 c2 c3 s0 s1 s2 s3 s4 s5 s6
      generalize may (D.F line) g.o g.i = V at *
      generalize D.F line = x at *
      unfold Slt.val Stg.val at *
      have CM : Box (∀ d os, Calls Try.prog 57 #[.agg #[.int .i64 x.h, .int .i64 x.i, .int .i64 x.c, .bool x.k], .agg #[.int .i64 g.t, .int .i64 g.l, .int .i64 g.a, .int .i64 g.d, .int .i64 g.z, .int .i64 g.o, .int .i64 g.i]] (Go.Sort.grow (redrawn W0 d) os) fun e w'' => e = .returned (.bool V) ∧ ∃ p : Regrown, w'' = Go.Sort.grow (redrawn W0 p.d) p.os) := boxed (fun d os => Calls.regrown_of (hm _))
      have HBx : Box (∀ d os, Below w.heap.size w (Go.Sort.grow (redrawn W0 d) os)) := boxed (fun d os => below_step hB0 (Nat.le_refl _) (below_regrown W0 d os))
      have HW0 := boxed hW0
      clear hm hB0 hW0
      generalize D.n = n at *
      have hl2 : (line : Int) < (n : Int) := by omega
      have hl3 : (line : Int) + 1 < (n : Int) := by omega
      have hl4 : line + 1 < n := by omega
      have t2 : decide (0 < (line : Int) + 1) = true := decide_eq_true (by omega)
      have t3 : decide ((line : Int) + 1 < (n : Int)) = true := decide_eq_true (by omega)
      have e1 : (line : Int) + 1 - 1 = (line : Int) := by omega
      have t4 : ((line : Int) + 1 == (n : Int)) = false := by rw [beq_eq_false_iff_ne]; omega
      clear t1
      clear hlast ho hv h0
      go_enter Try.func44, Try.ntmps44
      go_upto_region 1 with fail
      rw [HW0.out]
      refine wp_region_quiet_below (by kernel_rfl) (by kernel_rfl) ?_
      repeat (go_big_quiet_step (first | (go_at_call 57; exact CM.out _ _)))
      refine wpQuiet_nil ?_
      intro _ hw'
      obtain ⟨⟨dq, osq⟩, hw''⟩ := hw'
      subst hw''
      have HB6 := boxed (HBx.out dq osq)
      clear HBx CM vc0 vc1 vc2 vc3 vs0 vs1 vs2 vs3 vs4 vs5 vs6
      generalize Go.Sort.grow (redrawn W0 dq) osq = w5 at *
      go_wp2_with fail
      go_ret
      exact ⟨rfl, HB6.out⟩
set_option maxRecDepth 100000 in
set_option maxHeartbeats 1000000 in
theorem refhigh_any (F : Nat → Slt) (n : Nat) (S : Nat → Prop) (ao : Option Addr) (c a m : Nat) (w : World) (h : SltsAt S w ao n F) (hk : ∀ j, j < n → SltOk n (F j)) (hl : a + m ≤ n) (hn : n ≤ 1000) :
    Calls Try.prog 45 #[.slice ao n c, .int .i64 (a : Nat), .int .i64 ((a + m : Nat) : Int)] w fun e w' => e = .returned (.int .i64 (hi F a m)) ∧ w' = w := by
  have HH := boxed h
  have HBd : Box (∀ k, k ≤ m → 0 ≤ hi F a k ∧ hi F a k ≤ 1048576000) := boxed (fun k hkm => by
    have := hi_bound F n a k 1048576 (fun j hj => by have := (hk j hj).1; omega) (by omega)
    omega)
  have HPs : Box (∀ k, k < m → 1 ≤ (F (a + k)).h ∧ (F (a + k)).h ≤ 1048576) := boxed (fun k hkm => (hk (a + k) (by omega)).1)
  clear h hk
  go_enter Try.func45, Try.ntmps45
  go_wp2_with fail
  go_loopw [7, 8] (fun nv iv wr => ∃ k : Nat, k ≤ m ∧ nv = .int .i64 (hi F a k) ∧ iv = .int .i64 ((a + k : Nat) : Int) ∧ wr = w) (fun _ iv _ => a + m - (intOf iv).toNat)
  case atStart => exact ⟨0, Nat.zero_le _, rfl, rfl, rfl⟩
  case round =>
    obtain ⟨k, hkm, rfl, rfl, rfl⟩ := hrel
    by_cases hlt : k < m
    · obtain ⟨b, off, rfl, -, -⟩ := HH.out.form (by omega)
      obtain ⟨c0, -, -, -⟩ := HH.out.get (a + k) (by omega)
      have h1 := HBd.out k hkm
      have h2 := HPs.out k hlt
      have HN : Box (hi F a (k + 1) = hi F a k + (F (a + k)).h) := boxed rfl
      generalize hi F a k = X at *
      generalize (F (a + k)).h = Y at *
      obtain ⟨q, hq⟩ : ∃ q : Nat, a + k = q := ⟨_, rfl⟩
      have q1 : (q : Int) < ((a + m : Nat) : Int) := by omega
      have q2 : (q : Int) < (n : Int) := by omega
      have q3 : q < n := by omega
      have q4 : (q : Int) < (a : Int) + (m : Int) := by omega
      rw [hq] at c0 ⊢
      have HQ := boxed hq
      clear hq
      go_wp2_with fail
      go_roundw
      case rel => exact ⟨k + 1, by omega, by rw [HN.out], by rw [show a + (k + 1) = q + 1 by have := HQ.out; omega] <;> rfl, trivial⟩
      case measure => have := HQ.out; simp [intOf]; omega
    · obtain rfl : m = k := by omega
      have t1 : decide (((a + m : Nat) : Int) < ((a + m : Nat) : Int)) = false := decide_eq_false (by omega)
      go_wp2_with fail
      go_ret
      exact ⟨rfl, rfl⟩
end Go.Proofs.Ytdpjaafdpgkclaa
