/-
  The parts that stay together: what the program's Units answers.
-/
import Derived.Test.YtjchioopfljjhaaHi
namespace Go.Proofs.Ytjchioopfljjhaa
open Go.RowKit
set_option linter.unusedSimpArgs false
set_option linter.unusedVariables false

/-- The first numbers of parts among the first k lines. -/
def Dc.pts (D : Dc) : Nat → List Nat
  | 0 => []
  | k + 1 => if k = 0 ∨ D.cut k = true then D.pts k ++ [k] else D.pts k
theorem Dc.pts_yes (D : Dc) (k : Nat) (h : k = 0 ∨ D.cut k = true) : D.pts (k + 1) = D.pts k ++ [k] := by
  show (if _ then _ else _) = _
  rw [if_pos h]
theorem Dc.pts_no (D : Dc) (k : Nat) (h0 : ¬ k = 0) (h : D.cut k = false) : D.pts (k + 1) = D.pts k := by
  have e : D.pts (k + 1) = if k = 0 ∨ D.cut k = true then D.pts k ++ [k] else D.pts k := rfl
  rw [e, if_neg (by rw [h]; simp; exact h0)]
theorem Dc.pts_len (D : Dc) (k : Nat) : (D.pts k).length ≤ k := by
  induction k with
  | zero => exact Nat.le_refl _
  | succ k ih =>
    have e : D.pts (k + 1) = if k = 0 ∨ D.cut k = true then D.pts k ++ [k] else D.pts k := rfl
    rw [e]
    split
    · simp; omega
    · omega
theorem Dc.pts_lt (D : Dc) (k : Nat) : ∀ x ∈ D.pts k, x < k := by
  induction k with
  | zero => intro x hx; simp [Dc.pts] at hx
  | succ k ih =>
    have e : D.pts (k + 1) = if k = 0 ∨ D.cut k = true then D.pts k ++ [k] else D.pts k := rfl
    rw [e]
    intro x hx
    split at hx
    · rw [List.mem_append] at hx
      rcases hx with hx | hx
      · have := ih x hx; omega
      · simp at hx; omega
    · have := ih x hx; omega
set_option maxRecDepth 100000 in
set_option maxHeartbeats 2000000 in
theorem units_any (D : Dc) (g : Stg) (ho : g.o = D.o) (hv : g.i = D.v) (hg : I64 g.o ∧ I64 g.i) (S : Nat → Prop) (ao : Option Addr) (c : Nat) (w : World) (h : SltsAt S w ao D.n D.F) (hn : D.n ≤ 1000) :
    Calls Try.prog 26 #[.slice ao D.n c, g.val] w fun e w' => ∃ ao' c', e = .returned (.slice ao' (D.pts D.n).length c') ∧ NAt (fun b => w.heap.size ≤ b) w' ao' (D.pts D.n) ∧ Below w.heap.size w w' := by
  obtain ⟨i0, hi, hz0, hz1, hz2⟩ := info_parts info_int12
  obtain ⟨w2, hW0⟩ : ∃ W0, w.alloc (.cells #[.int .i64 g.t, .int .i64 g.l, .int .i64 g.a, .int .i64 g.d, .int .i64 g.z, .int .i64 g.o, .int .i64 g.i] 24) = W0 := ⟨_, rfl⟩
  have hst := stc_new w g
  have hB0 := (laid1 w (.cells #[.int .i64 g.t, .int .i64 g.l, .int .i64 g.a, .int .i64 g.d, .int .i64 g.z, .int .i64 g.o, .int .i64 g.i] 24)).2.1
  rw [hW0] at hst hB0
  have HS := boxed hst
  have HW0 := boxed hW0
  have HH := boxed (h.below hB0)
  have HBx : Box (∀ W, Below w2.heap.size w2 W → Below w.heap.size w W) := boxed (fun W hb => below_step hB0 (Nat.le_refl _) hb)
  have HM := boxed (fun (j : Nat) (hj : j < D.n) (W : World) => may_any (D.F j) g (h j hj).1.2 hg W)
  have HCm := boxed (fun k hk => D.cut_may k hk)
  rw [← ho, ← hv] at HCm
  have hz := hB0.size
  clear h hB0 hst hW0 ho hv hg
  unfold Stg.val at *
  go_enter Try.func26, Try.ntmps26
  go_upto_region 1 with fail
  rw [HW0.out]
  go_wp2_with fail
  go_loopw [5, 9] (fun sv kv wr => ∃ k : Nat, k ≤ D.n ∧ kv = .int .i64 (k : Nat) ∧ Box (wr.ownsRow w2.heap.size 3 1 sv (D.pts k).length (ncs (D.pts k))) ∧ Box (Below w2.heap.size w2 wr)) (fun _ kv _ => D.n - (intOf kv).toNat)
  case atStart => exact ⟨0, Nat.zero_le _, rfl, boxed (World.ownsRow_nil _ _ _ _), boxed (Below.refl _ _)⟩
  case round =>
    obtain ⟨k, hk, rfl, HO, HB⟩ := hrel
    by_cases hlt : k < D.n
    · have hlt2 : (k : Int) < (D.n : Int) := by omega
      have HLn := boxed (D.pts_len k)
      have HY := boxed (D.pts_yes k)
      have HNo := boxed (D.pts_no k)
      by_cases h0 : k = 0
      · have HI := boxed (HY.out (.inl h0))
        subst h0
        have hown := HO.out
        have hzr := HB.out.size
        have hl0 : (D.pts 0).length = 0 := rfl
        rw [hl0] at hown
        clear HY HNo hl0
        go_wp2_with fail
        go_quiet (fail)
        obtain ⟨w4, hw4⟩ : ∃ w4, wr.drewN nq = w4 := ⟨_, rfl⟩
        have HB4 : Box (Below w2.heap.size w2 w4) := boxed (by rw [← hw4]; exact HB.out.trans (bel_drewN _ _ _))
        have hown4 : w4.ownsRow w2.heap.size 3 1 u5 0 (ncs (D.pts 0)) := by rw [← hw4]; exact owns_below hown (bel_drewN _ _ _)
        have hz4 := HB4.out.size
        rw [hw4]
        clear hw4 hown
        go_wp2_with (first | (at_builtin; refine wpList_append_own _ rfl _ _ 26 rfl w2.heap.size 3 i0 _ 1 8 Try.underlying26 hi hz0 hz1 hz2 rfl (by decide) _ _ _ rfl (hown4.alloc _) ⟨w4.heap.size, 0, none⟩ 1 1 [.int .i64 (0 : Int)] rfl rfl ?c1 ?c2 ?c3 ?c4 ?c5 ?_))
        case c1 =>
          intro j u hj
          match j, hj with
          | 0, hj => simp at hj; subst hj; simp [Addr.add]
        case c2 => intro u hu; simp at hu; subst hu; rfl
        case c3 => unfold maxLen; omega
        case c4 => omega
        case c5 => simp; omega
        intro v' w6 hown6 hgrow6 _
        have HO6 : Box (w6.ownsRow w2.heap.size 3 1 v' (D.pts (0 + 1)).length (ncs (D.pts (0 + 1)))) := boxed (by rw [HI.out, ncs_app, List.length_append]; exact hown6)
        have HG6 := boxed (HB4.out.trans (grown_any hown4 hz4 hgrow6))
        clear hown6 hgrow6 hown4
        go_wp2_with fail
        go_roundw
        case rel => exact ⟨0 + 1, by omega, by go_num, HO6, HG6⟩
        case measure => simp [intOf]; omega
      · obtain ⟨m, rfl⟩ : ∃ m, k = m + 1 := ⟨k - 1, by omega⟩
        obtain ⟨b, off, rfl, hbw, -⟩ := HH.out.form (by omega)
        obtain ⟨c0, c1, c2, c3⟩ := (HH.out.below HB.out).get m (by omega)
        obtain ⟨s0, s1, s2, s3, s4, s5, s6⟩ := HS.out.below HB.out
        have hm := fun W => HM.out m (by omega) W
        rw [← HCm.out m hlt] at hm
        have e1 : (m : Int) + 1 - 1 = (m : Int) := by omega
        have t1 : ((m : Int) + 1 == 0) = false := by rw [beq_eq_false_iff_ne]; omega
        have b1 : (m : Int) < (D.n : Int) := by omega
        have b2 : m < D.n := by omega
        have vc0 := cell_regrown c0
        have vc1 := cell_regrown c1
        have vc2 := cell_regrown c2
        have vc3 := cell_regrown c3
        have vs0 := cell_regrown s0
        have vs1 := cell_regrown s1
        have vs2 := cell_regrown s2
        have vs3 := cell_regrown s3
        have vs4 := cell_regrown s4
        have vs5 := cell_regrown s5
        have vs6 := cell_regrown s6
        clear c0 c1 c2 c3 s0 s1 s2 s3 s4 s5 s6 HM HCm
        generalize hC : D.cut (m + 1) = C at *
        have hC2 := boxed hC
        clear hC
        generalize D.F m = x at *
        unfold Slt.val at *
        have CM : Box (∀ d os, Calls Try.prog 24 #[.agg #[.int .i64 x.h, .int .i64 x.i, .int .i64 x.c, .bool x.k], .agg #[.int .i64 g.t, .int .i64 g.l, .int .i64 g.a, .int .i64 g.d, .int .i64 g.z, .int .i64 g.o, .int .i64 g.i]] (Go.Sort.grow (redrawn wr d) os) fun e w'' => e = .returned (.bool C) ∧ ∃ p : Regrown, w'' = Go.Sort.grow (redrawn wr p.d) p.os) := boxed (fun d os => Calls.regrown_of (hm _))
        have HBn : Box (∀ d os, Below w2.heap.size w2 (Go.Sort.grow (redrawn wr d) os)) := boxed (fun d os => below_step HB.out (Nat.le_refl _) (below_regrown wr d os))
        have HOn : Box (∀ d os, (Go.Sort.grow (redrawn wr d) os).ownsRow w2.heap.size 3 1 u5 (D.pts (m + 1)).length (ncs (D.pts (m + 1)))) := boxed (fun d os => owns_below HO.out (below_regrown wr d os))
        clear hm
        go_wp2_with fail
        refine wp_region_quiet_below (by kernel_rfl) (by kernel_rfl) ?_
        repeat (go_big_quiet_step (first | (go_at_call 24; exact CM.out _ _)))
        refine wpQuiet_nil ?_
        intro _ hw'
        obtain ⟨⟨dq, osq⟩, hw''⟩ := hw'
        subst hw''
        have HB4 := boxed (HBn.out dq osq)
        have HO4 := boxed (HOn.out dq osq)
        clear HBn HOn CM vc0 vc1 vc2 vc3 vs0 vs1 vs2 vs3 vs4 vs5 vs6
        generalize Go.Sort.grow (redrawn wr dq) osq = w4 at *
        cases C with
        | false =>
          have HI := boxed (HNo.out h0 rfl)
          clear HY HNo
          go_wp2_with fail
          go_roundw
          case rel => exact ⟨m + 1 + 1, by omega, by go_num, boxed (by rw [HI.out]; exact HO4.out), HB4⟩
          case measure => simp [intOf]; omega
        | true =>
          have HI := boxed (HY.out (.inr rfl))
          have hown4 := HO4.out
          have hz4 := HB4.out.size
          have hll := HLn.out
          clear HY HNo
          generalize hLe : (D.pts (m + 1)).length = ll at *
          have hLe2 := boxed hLe
          clear hLe
          go_wp2_with (first | (at_builtin; refine wpList_append_own _ rfl _ _ 26 rfl w2.heap.size 3 i0 _ 1 8 Try.underlying26 hi hz0 hz1 hz2 rfl (by decide) _ _ _ rfl (hown4.alloc _) ⟨w4.heap.size, 0, none⟩ 1 1 [.int .i64 ((m + 1 : Nat) : Int)] rfl rfl ?c1 ?c2 ?c3 ?c4 ?c5 ?_))
          case c1 =>
            intro j u hj
            match j, hj with
            | 0, hj => simp at hj; subst hj; simp [Addr.add]
          case c2 => intro u hu; simp at hu; subst hu; rfl
          case c3 => unfold maxLen; omega
          case c4 => omega
          case c5 => simp; omega
          intro v' w6 hown6 hgrow6 _
          have HO6 : Box (w6.ownsRow w2.heap.size 3 1 v' (D.pts (m + 1 + 1)).length (ncs (D.pts (m + 1 + 1)))) := boxed (by rw [HI.out, ncs_app, List.length_append, hLe2.out]; exact hown6)
          have HG6 := boxed (HB4.out.trans (grown_any hown4 hz4 hgrow6))
          clear hown6 hgrow6 hown4
          go_wp2_with fail
          go_roundw
          case rel => exact ⟨m + 1 + 1, by omega, by go_num, HO6, HG6⟩
          case measure => simp [intOf]; omega
    · obtain rfl : k = D.n := by omega
      obtain ⟨ao', c', rfl⟩ := own_shape HO.out
      have HF := boxed ((own_nat HO.out rfl).keep (S' := fun b => w.heap.size ≤ b) (fun b i u hs hc => ⟨by have h0 : w2.heap.size ≤ b := hs; omega, hc⟩))
      clear HO
      have t1 : decide ((D.n : Int) < (D.n : Int)) = false := decide_eq_false (by omega)
      go_wp2_with fail
      go_ret
      exact ⟨ao', c', rfl, HF.out, HBx.out _ HB.out⟩
end Go.Proofs.Ytjchioopfljjhaa
