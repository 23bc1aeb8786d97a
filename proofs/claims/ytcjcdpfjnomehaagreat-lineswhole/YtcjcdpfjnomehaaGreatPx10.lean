/-
  What a paragraph's upTo, Line, Bounds and Fit answer.
-/
import Derived.Deep.RegionHeld3
import Derived.Deep.RegionWith
import Derived.Lib.QuietBelow
import Derived.BigQuiet
import Derived.Test.YtcjcdpfjnomehaaGreatPx9
import Derived.Test.YtcjcdpfjnomehaaGreatPx6
namespace Go.Proofs.YtcjcdpfjnomehaaGreat
open Go.RowKit
set_option linter.unusedSimpArgs false
set_option linter.unusedVariables false
theorem pre_fit (I : Nat → Itm) (n : Nat) (hn : n ≤ 262144) (hok : ∀ i, i < n → okI I i = true) (k : Nat) (hk : k ≤ n) : Sfit (pre I k) := by
  have := pre_le I n hok k hk
  unfold Sfit
  omega
theorem upt_le (I : Nat → Itm) (n : Nat) (hn : n ≤ 262144) (hok : ∀ i, i < n → okI I i = true) (a b : Int) : (0 ≤ (upt I n a b).w ∧ (upt I n a b).w ≤ 18014398509481984) ∧ (0 ≤ (upt I n a b).st ∧ (upt I n a b).st ≤ 18014398509481984) ∧ (0 ≤ (upt I n a b).sh ∧ (upt I n a b).sh ≤ 18014398509481984) ∧ (0 ≤ (upt I n a b).f ∧ (upt I n a b).f ≤ 262144) := by
  unfold upt
  split
  · rename_i h
    have h1 := pre_le I n hok b.toNat (by omega)
    have h2 := pre_le I n hok (sta I n a) (sta_le I n a)
    have h3 := pre_mono I n hok (sta I n a) b.toNat (by omega) (by omega)
    simp only [Sm.sub]
    omega
  · simp [Sm.zero]
section
variable {S : Nat → Prop} {w : World} {pb n : Nat} {I : Nat → Itm}
set_option maxRecDepth 100000 in
set_option maxHeartbeats 2000000 in
theorem upTo_any (h : ParaAt S w pb n I) (hn : n ≤ 262144) (hok : ∀ i, i < n → okI I i = true) (a b : Int) : Calls Tryz.prog 159 #[.pointer (some ⟨pb, 0, none⟩), .int .i64 a, .int .i64 b] w fun e w' => e = .returned (upt I n a b).val ∧ Below w.heap.size w w' := by
  obtain ⟨w0, hw0, hb0, hz0, HN⟩ := res4 w _ rfl
  replace HN := boxed HN
  have h' := h.below hb0
  obtain ⟨lo', lc', eo', ec', so', sc', uo', uc, -, ⟨k0, k1, k2, k3, k4⟩, -, -, -, g4⟩ := h
  have hst := start_any h' hn a
  have hhas := has_any h' hn b
  have hsl := sta_le I n a
  obtain ⟨lo, lc, eo, ec, so, sc, uo, uc2, hs, ⟨c0, c1, c2, c3, c4⟩, h1, h2, h3, h4⟩ := h'
  clear h1 h2 h3
  unfold hasI at hhas
  have HB0 := boxed hb0
  clear hb0
  by_cases g1 : 0 ≤ b ∧ b < (n : Int)
  · have e1 : (decide (0 ≤ b) && decide (b < (n : Int))) = true := by simp [g1]
    rw [e1] at hhas
    clear e1
    obtain ⟨b, rfl⟩ : ∃ j : Nat, b = (j : Int) := ⟨b.toNat, by omega⟩
    have hbn : b < n := by omega
    by_cases g2 : sta I n a < b
    · have hU : upt I n a (b : Int) = (pre I b).sub (pre I (sta I n a)) := by unfold upt; rw [if_pos (by omega), Int.toNat_natCast]
      have hle := fun w => less_any (pre I b) (pre I (sta I n a)) w (pre_fit I n hn hok b (by omega)) (pre_fit I n hn hok _ hsl)
      rw [hU]
      generalize sta I n a = s0 at *
      have t1 : decide ((b : Int) ≤ (s0 : Int)) = false := decide_eq_false (by omega)
      have t1' : decide (b ≤ s0) = false := decide_eq_false (by omega)
      obtain ⟨ub, e, -, d0, d1, d2, d3⟩ := g4 b hbn
      obtain ⟨ub', e', -, f0, f1, f2, f3⟩ := g4 s0 (by omega)
      subst e
      injection e' with e'
      injection e' with e1 e2 e3
      subst e1
      clear g4 h4 hU e2 e3
      unfold Sm.val at hle ⊢
      generalize pre I b = P at *
      generalize pre I s0 = Q at *
      generalize P.sub Q = R at *
      have HX : Box (∀ W, Below w.heap.size w W → (W.cell? ⟨pb, 3, none⟩ = some (.slice (some ⟨ub, 0, none⟩) n uc)) ∧ (W.cell? ⟨ub, b * 4, none⟩ = some (.int .i64 P.w) ∧ W.cell? ⟨ub, b * 4 + 1, none⟩ = some (.int .i64 P.st) ∧ W.cell? ⟨ub, b * 4 + 2, none⟩ = some (.int .i64 P.sh) ∧ W.cell? ⟨ub, b * 4 + 3, none⟩ = some (.int .i64 P.f)) ∧
          (W.cell? ⟨ub, s0 * 4, none⟩ = some (.int .i64 Q.w) ∧ W.cell? ⟨ub, s0 * 4 + 1, none⟩ = some (.int .i64 Q.st) ∧ W.cell? ⟨ub, s0 * 4 + 2, none⟩ = some (.int .i64 Q.sh) ∧ W.cell? ⟨ub, s0 * 4 + 3, none⟩ = some (.int .i64 Q.f))) := boxed (fun W hb =>
        ⟨hold hb k3, ⟨hold hb d0, hold hb d1, hold hb d2, hold hb d3⟩, hold hb f0, hold hb f1, hold hb f2, hold hb f3⟩)
      have HD0 : Box (Below w.heap.size w w0.drew) := boxed HB0.out.drew
      have g5 : s0 < n := by omega
      have g6 : (s0 : Int) < (n : Int) := by omega
      have g7 : (b : Int) < (n : Int) := by omega
      clear k0 k1 k2 k3 k4 d0 d1 d2 d3 f0 f1 f2 f3 c0 c1 c2 c3 c4
      go_enter Tryz.func159, Tryz.ntmps159
      go_wp2_with (first | (go_at_call 74; refine hst.mono ?_; rintro e w' ⟨rfl, hw'⟩; subst w') | (go_at_call 119; refine hhas.mono ?_; rintro e w' ⟨rfl, hw'⟩; subst w'))
      go_region_held3 (fun W => (W.cell? ⟨pb, 3, none⟩ = some (.slice (some ⟨ub, 0, none⟩) n uc)) ∧ (W.cell? ⟨ub, b * 4, none⟩ = some (.int .i64 P.w) ∧ W.cell? ⟨ub, b * 4 + 1, none⟩ = some (.int .i64 P.st) ∧ W.cell? ⟨ub, b * 4 + 2, none⟩ = some (.int .i64 P.sh) ∧ W.cell? ⟨ub, b * 4 + 3, none⟩ = some (.int .i64 P.f)) ∧
          (W.cell? ⟨ub, s0 * 4, none⟩ = some (.int .i64 Q.w) ∧ W.cell? ⟨ub, s0 * 4 + 1, none⟩ = some (.int .i64 Q.st) ∧ W.cell? ⟨ub, s0 * 4 + 2, none⟩ = some (.int .i64 Q.sh) ∧ W.cell? ⟨ub, s0 * 4 + 3, none⟩ = some (.int .i64 Q.f)))
        (first | with_reducible exact HX.out _ HD0.out | with_reducible exact HX.out _ HB5.out | with_reducible exact HX.out _ HF.out)
        (first | (go_at_call 193; refine (hle _).mono ?_; rintro e w1 ⟨rfl, hb⟩; have hb1 := below_step (Below.refl w0.heap.size w0).drew (Nat.le_refl _) hb; have HB5 := boxed (HB0.out.trans (hb1.mono (by omega))); obtain ⟨⟨⟨x0, x1, x2, x3⟩, y0, y1, y2, y3⟩, HQ, HF, -⟩ := HN.out _ hb1 (.int .i64 R.w) (.int .i64 R.st) (.int .i64 R.sh) (.int .i64 R.f); simp only [put4] at HQ HF; replace HQ := boxed HQ; replace HF := boxed HF; clear hb hb1 hle))
      go_wp2_with fail
      refine bodyPost_ret (v := .agg #[.int .i64 R.w, .int .i64 R.st, .int .i64 R.sh, .int .i64 R.f]) (by have q := HQ.out; simp [results, Tryz.results159, go_sem, q]) rfl ⟨rfl, HF.out⟩
    · have hU : upt I n a (b : Int) = Sm.zero := by unfold upt; rw [if_neg (by omega)]
      rw [hU]
      generalize sta I n a = s0 at *
      have t1 : decide ((b : Int) ≤ (s0 : Int)) = true := decide_eq_true (by omega)
      have t1' : decide (b ≤ s0) = true := decide_eq_true (by omega)
      clear h4 hU
      unfold Sm.val Sm.zero
      obtain ⟨⟨⟨x0, x1, x2, x3⟩, y0, y1, y2, y3⟩, HQ, HF, -⟩ := HN.out _ (Below.refl _ _) (.int .i64 0) (.int .i64 0) (.int .i64 0) (.int .i64 0)
      replace HQ := boxed HQ
      replace HF := boxed HF
      go_enter Tryz.func159, Tryz.ntmps159
      go_wp2_with (first | (go_at_call 74; refine hst.mono ?_; rintro e w' ⟨rfl, hw'⟩; subst w') | (go_at_call 119; refine hhas.mono ?_; rintro e w' ⟨rfl, hw'⟩; subst w'))
      refine bodyPost_ret (v := .agg #[.int .i64 0, .int .i64 0, .int .i64 0, .int .i64 0]) (by have q := HQ.out; simp only [put4] at q; simp [results, Tryz.results159, go_sem, q]) rfl ⟨rfl, HF.out⟩
  · have e1 : (decide (0 ≤ b) && decide (b < (n : Int))) = false := by simp; omega
    rw [e1] at hhas
    have hU : upt I n a b = Sm.zero := by unfold upt; rw [if_neg (by omega)]
    rw [hU]
    clear h4 hU e1
    unfold Sm.val Sm.zero
    obtain ⟨⟨⟨x0, x1, x2, x3⟩, y0, y1, y2, y3⟩, HQ, HF, -⟩ := HN.out _ (Below.refl _ _) (.int .i64 0) (.int .i64 0) (.int .i64 0) (.int .i64 0)
    replace HQ := boxed HQ
    replace HF := boxed HF
    generalize sta I n a = s0 at *
    go_enter Tryz.func159, Tryz.ntmps159
    go_wp2_with (first | (go_at_call 74; refine hst.mono ?_; rintro e w' ⟨rfl, hw'⟩; subst w') | (go_at_call 119; refine hhas.mono ?_; rintro e w' ⟨rfl, hw'⟩; subst w'))
    refine bodyPost_ret (v := .agg #[.int .i64 0, .int .i64 0, .int .i64 0, .int .i64 0]) (by have q := HQ.out; simp only [put4] at q; simp [results, Tryz.results159, go_sem, q]) rfl ⟨rfl, HF.out⟩
set_option maxRecDepth 100000 in
set_option maxHeartbeats 2000000 in
theorem bounds_any (h : ParaAt S w pb n I) (hn : n ≤ 262144) (hok : ∀ i, i < n → okI I i = true) (a b : Int) : Calls Tryz.prog 214 #[.pointer (some ⟨pb, 0, none⟩), .int .i64 a, .int .i64 b] w fun e w' =>
    e = .returned (.tuple #[.int .i64 ((upt I n a b).w - (upt I n a b).sh), .int .i64 ((upt I n a b).w + 5 * (upt I n a b).st + wst I n), .bool (decide (0 < (upt I n a b).f))]) ∧ Below w.heap.size w w' := by
  have hu := upTo_any h hn hok a b
  have hle := upt_le I n hn hok a b
  have hw := (wst_le I n hok n (Nat.le_refl _)).1
  obtain ⟨lo, lc, eo, ec, so, sc, uo, uc, hs, ⟨c0, c1, c2, c3, c4⟩, h1, h2, h3, h4⟩ := h
  clear h1 h2 h3 h4
  unfold Sm.val at hu
  generalize upt I n a b = U at *
  generalize wst I n = M at *
  go_enter Tryz.func214, Tryz.ntmps214
  go_wp2_with fail
  refine hu.mono ?_
  rintro e w1 ⟨rfl, hb⟩
  have d4 := hold hb c4
  have q1 : pb < w1.heap.size := World.block_lt_of_cell? w1 _ d4
  have q2 : pb ≠ w1.heap.size := by omega
  have HB := boxed hb
  clear hb hu
  go_wp2_with fail
  go_quiet (fail)
  go_wp2_with fail
  go_ret3
  exact ⟨rfl, (HB.out.alloc HB.out.size _).trans (bel_drewN _ _ _)⟩
set_option maxRecDepth 100000 in
set_option maxHeartbeats 2000000 in
theorem line_any (h : ParaAt S w pb n I) (hn : n ≤ 262144) (hok : ∀ i, i < n → okI I i = true) (a b : Int) : Calls Tryz.prog 113 #[.pointer (some ⟨pb, 0, none⟩), .int .i64 a, .int .i64 b] w fun e w' => e = .returned (lin I n a b).val ∧ Below w.heap.size w w' := by
  obtain ⟨w0, hw0, hb0, hz0, HN⟩ := res4 w _ rfl
  replace HN := boxed HN
  have hu := upTo_any (h.below hb0) hn hok a b
  have hle := upt_le I n hn hok a b
  have hit := boxed (fun W (hb : Below w.heap.size w W) => item_any (h.below hb) hn b)
  have had := fun W => added_any (itm I n b) W
  have hil : 0 ≤ addd (itm I n b) ∧ addd (itm I n b) ≤ 68719476736 := by
    unfold itm addd
    split
    · rename_i c
      have := okI_ms I b.toNat (hok _ (by omega))
      split <;> omega
    · simp [Itm.zero]
  unfold lin Sm.val
  simp only
  unfold Sm.val at hu
  unfold Itm.val at had hit
  generalize upt I n a b = U at *
  generalize addd (itm I n b) = D at *
  generalize itm I n b = x at *
  have HB0 := boxed hb0
  clear hb0
  go_enter Tryz.func113, Tryz.ntmps113
  go_wp2_with fail
  refine hu.mono ?_
  rintro e w1 ⟨rfl, hb1⟩
  have HB1 := boxed (below_step HB0.out (Nat.le_refl _) hb1)
  have HE1 := boxed hb1
  clear hb1 hu
  obtain ⟨wS, hwS⟩ : ∃ wS, w1.alloc (.cells #[.int .i64 U.w, .int .i64 U.st, .int .i64 U.sh, .int .i64 U.f] 170) = wS := ⟨_, rfl⟩
  have hbS : Below w1.heap.size w1 wS := by rw [← hwS]; exact (Below.refl _ _).alloc (Nat.le_refl _) _
  have hzS : wS.heap.size = w1.heap.size + 1 := by rw [← hwS]; simp
  have heS : wS.heap[w1.heap.size]? = some (.cells #[.int .i64 U.w, .int .i64 U.st, .int .i64 U.sh, .int .i64 U.f] 170 (0, 0)) := by rw [← hwS]; exact heap_alloc_new w1 _
  obtain ⟨SB, hSB⟩ : ∃ SB, w1.heap.size = SB := ⟨_, rfl⟩
  rw [hSB] at heS hzS
  have hzSB : w0.heap.size ≤ SB := by rw [← hSB]; exact HE1.out.size
  have HK : Box (∀ W, Below wS.heap.size wS W → W.heap[SB]? = some (.cells #[.int .i64 U.w, .int .i64 U.st, .int .i64 U.sh, .int .i64 U.f] 170 (0, 0)) ∧ Below w.heap.size w W ∧ Below w0.heap.size w0 W) := boxed (fun W hb =>
    ⟨(hb.block SB (by omega)).trans heS, below_step (below_step HB1.out (Nat.le_refl _) hbS) (Nat.le_refl _) hb, below_step (below_step HE1.out (Nat.le_refl _) hbS) (Nat.le_refl _) hb⟩)
  have HD : Box (Below wS.heap.size wS wS.drew) := boxed (Below.refl _ _).drew
  have HDw : Box (Below w.heap.size w wS.drew) := boxed ((HK.out _ (Below.refl _ _)).2.1.drew)
  obtain ⟨⟨a0, a1, a2, a3⟩, y0, y1, y2, y3⟩ := cells4 (HK.out _ HD.out).1
  have hSB2 := boxed hSB
  have hwS2 := boxed hwS
  clear hbS heS hw0 h
  go_wp2_with fail
  go_region_with (first
    | (go_at_call 73; refine (hit.out _ HDw.out).mono ?_; rintro e w2 ⟨rfl, hb2⟩; have HK2 := boxed (below_step HD.out (Nat.le_refl _) hb2); obtain ⟨⟨b0, b1, b2, b3⟩, z0, z1, z2, z3⟩ := cells4 (HK.out _ HK2.out).1; clear hb2)
    | (go_at_call 107; refine (had _).mono ?_; rintro e w3 ⟨rfl, hb3⟩; have HK3 := boxed (below_step HK2.out (Nat.le_refl _) hb3); obtain ⟨⟨d0, d1, d2, d3⟩, x0, x1, x2, x3⟩ := cells4 (HK.out _ HK3.out).1; clear hb3))
  all_goals
    have ew : IntKind.i64.wrap (U.w + D) = U.w + D := by rw [IntKind.wrap_i64]; omega
    rw [ew]
    have e3 := (HK.out _ HK3.out).1
    have F1 : (w3.setCell ⟨SB, 0, none⟩ (.int .i64 (U.w + D))).heap[SB]? = some (.cells #[.int .i64 (U.w + D), .int .i64 U.st, .int .i64 U.sh, .int .i64 U.f] 170 (0, 0)) := by simp [World.setCell, Array.getElem?_modify, e3]
    have F2 : Below w0.heap.size w0 (w3.setCell ⟨SB, 0, none⟩ (.int .i64 (U.w + D))) := (HK.out _ HK3.out).2.2.setCell (by simp only; omega) _
    obtain ⟨⟨⟨p0, p1, p2, p3⟩, r0, r1, r2, r3⟩, HQ, HF, -⟩ := HN.out _ F2 (.int .i64 (U.w + D)) (.int .i64 U.st) (.int .i64 U.sh) (.int .i64 U.f)
    obtain ⟨⟨s0, s1, s2, s3⟩, -⟩ := cells4 F1
    simp only [put4] at HQ HF
    clear a0 a1 a2 a3 y0 y1 y2 y3 b0 b1 b2 b3 z0 z1 z2 z3 d0 d1 d2 d3 x0 x1 x2 x3 e3 F1 F2 hit had ew HK2 HK3 hwS
    generalize w3.setCell ⟨SB, 0, none⟩ (.int .i64 (U.w + D)) = w4 at *
    replace HQ := boxed HQ
    replace HF := boxed HF
    have hne : SB ≠ w.heap.size := by omega
    have hne2 : w.heap.size ≠ SB := by omega
    go_wp2_with fail
    refine bodyPost_ret (v := .agg #[.int .i64 (U.w + D), .int .i64 U.st, .int .i64 U.sh, .int .i64 U.f]) (by have q := HQ.out; simp [results, Tryz.results113, go_sem, q]) rfl ⟨rfl, HF.out⟩
theorem lin_ok (I : Nat → Itm) (n : Nat) (hn : n ≤ 262144) (hok : ∀ i, i < n → okI I i = true) (a b width : Int) (hw : -1099511627776 ≤ width ∧ width ≤ 1099511627776) : SmOk (lin I n a b) width ∧ 0 ≤ (lin I n a b).sh := by
  have h1 := upt_le I n hn hok a b
  have h2 : 0 ≤ addd (itm I n b) ∧ addd (itm I n b) ≤ 68719476736 := by
    unfold itm addd
    split
    · rename_i c
      have := okI_ms I b.toNat (hok _ (by omega))
      split <;> omega
    · simp [Itm.zero]
  unfold SmOk lin
  simp only
  omega
set_option maxRecDepth 100000 in
set_option maxHeartbeats 2000000 in
theorem pfit_any (h : ParaAt S w pb n I) (hn : n ≤ 262144) (hok : ∀ i, i < n → okI I i = true) (a b width : Int) (hw : -1099511627776 ≤ width ∧ width ≤ 1099511627776) : Calls Tryz.prog 69 #[.pointer (some ⟨pb, 0, none⟩), .int .i64 a, .int .i64 b, .int .i64 width] w fun e w' => e = .returned (setF (lin I n a b) width).val ∧ Below w.heap.size w w' := by
  obtain ⟨w0, hw0, hb0, hz0, HN⟩ := res5 w _ rfl
  replace HN := boxed HN
  have hl := line_any (h.below hb0) hn hok a b
  have hse := fun W => set_any (lin I n a b) width W (lin_ok I n hn hok a b width hw).1
  generalize lin I n a b = L at *
  obtain ⟨f0, f1, f2, f3, f4, hF⟩ : ∃ a b c d e, setF L width = ⟨a, b, c, d, e⟩ := ⟨_, _, _, _, _, rfl⟩
  rw [hF] at hse ⊢
  unfold Sm.val at hl hse
  unfold Ft.val at hse ⊢
  simp only at hse ⊢
  clear hF h hb0
  go_enter Tryz.func69, Tryz.ntmps69
  go_wp2_with fail
  refine hl.mono ?_
  rintro e w1 ⟨rfl, hb1⟩
  have HB1 := boxed hb1
  clear hb1 hl
  go_wp2_with fail
  refine (hse _).mono ?_
  rintro e w2 ⟨rfl, hb2⟩
  have HB2 := boxed (below_step HB1.out (Nat.le_refl _) hb2)
  clear hb2 hse
  obtain ⟨⟨⟨d0, d1, d2, d3, d4⟩, g0, g1, g2, g3, g4⟩, HQ, HF, -⟩ := HN.out _ HB2.out (.int .i64 f0) (.int .i64 f1) (.int .i64 f2) (.int .i64 f3) (.bool f4)
  replace HQ := boxed HQ
  replace HF := boxed HF
  go_wp2_with fail
  refine bodyPost_ret (v := .agg #[.int .i64 f0, .int .i64 f1, .int .i64 f2, .int .i64 f3, .bool f4]) (by have q := HQ.out; simp only [put5] at q; simp [results, Tryz.results69, go_sem, q]) rfl ⟨rfl, HF.out⟩
end
end Go.Proofs.YtcjcdpfjnomehaaGreat

/-
  Plain: for a later end neither of a line's bounds falls; what can't be narrow enough doesn't fit, and what can't be wide enough is as bad as may be. No walk.
-/
namespace Go.Proofs.YtcjcdpfjnomehaaGreat
set_option linter.unusedSimpArgs false
set_option linter.unusedVariables false
theorem upt_mono (I : Nat → Itm) (n : Nat) (hok : ∀ i, i < n → okI I i = true) (a : Int) (k : Nat) (hk : k + 1 < n) :
    (upt I n a (k : Int)).w - (upt I n a (k : Int)).sh ≤ (upt I n a ((k + 1 : Nat) : Int)).w - (upt I n a ((k + 1 : Nat) : Int)).sh ∧
    (upt I n a (k : Int)).w + 5 * (upt I n a (k : Int)).st ≤ (upt I n a ((k + 1 : Nat) : Int)).w + 5 * (upt I n a ((k + 1 : Nat) : Int)).st ∧
    (upt I n a (k : Int)).f ≤ (upt I n a ((k + 1 : Nat) : Int)).f := by
  have hs := sta_le I n a
  unfold upt
  rw [Int.toNat_natCast, Int.toNat_natCast]
  by_cases c1 : sta I n a < k
  · rw [if_pos (by omega), if_pos (by omega)]
    have h1 := pre_mono I n hok k (k + 1) (by omega) (by omega)
    simp only [Sm.sub]
    omega
  · rw [if_neg (by omega)]
    by_cases c2 : sta I n a < k + 1
    · rw [if_pos (by omega)]
      have h1 := pre_mono I n hok (sta I n a) (k + 1) (by omega) (by omega)
      simp only [Sm.sub, Sm.zero]
      omega
    · rw [if_neg (by omega)]
      simp [Sm.zero]
theorem itm_add (I : Nat → Itm) (n : Nat) (hok : ∀ i, i < n → okI I i = true) (b : Nat) (hb : b < n) : 0 ≤ addd (itm I n (b : Int)) ∧ addd (itm I n (b : Int)) ≤ wst I n := by
  have e : itm I n (b : Int) = I b := by unfold itm; rw [if_pos (by omega), Int.toNat_natCast]
  rw [e]
  have h1 := okI_ms I b (hok b hb)
  have h2 := (wst_le I n hok n (Nat.le_refl _)).2 b hb
  refine ⟨?_, h2⟩
  unfold addd
  split <;> omega
theorem fit_over (I : Nat → Itm) (n : Nat) (hn : n ≤ 262144) (hok : ∀ i, i < n → okI I i = true) (a : Int) (b : Nat) (hb : b < n) (width : Int)
    (h : width < (upt I n a (b : Int)).w - (upt I n a (b : Int)).sh) : (setF (lin I n a (b : Int)) width).over = true := by
  have h1 := upt_le I n hn hok a (b : Int)
  have h2 := itm_add I n hok b hb
  unfold setF lin
  simp only
  rw [if_neg (by omega), if_neg (by omega)]
  unfold shF
  rw [if_pos (by omega)]
  rfl
end Go.Proofs.YtcjcdpfjnomehaaGreat

/-
  What the document's Legal and Start answer; what the statements' para does.
-/
namespace Go.Proofs.YtcjcdpfjnomehaaGreat
open Go.RowKit
set_option linter.unusedSimpArgs false
set_option linter.unusedVariables false
end Go.Proofs.YtcjcdpfjnomehaaGreat

/-
  Plain: a paragraph has a place at which a line may end. No walk.
-/
namespace Go.Proofs.YtcjcdpfjnomehaaGreat
open Go.RowKit
set_option linter.unusedSimpArgs false
set_option linter.unusedVariables false
theorem below_grown {w w' : World} (h : Below w.heap.size w w') (row : Option Nat) : w.grownBy w' row := ⟨h.os, h.tape, h.output, h.size, fun k hk _ => h.block k hk⟩
end Go.Proofs.YtcjcdpfjnomehaaGreat
