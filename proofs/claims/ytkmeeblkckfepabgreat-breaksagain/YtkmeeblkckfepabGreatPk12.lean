/-
  What a paragraph's upTo, Line, Bounds and Fit answer.
-/
import Derived.Deep.RegionHeld3
import Derived.Deep.RegionWith
import Derived.Lib.QuietBelow
import Derived.BigQuiet
import Derived.Test.YtkmeeblkckfepabGreatPk9
import Derived.Test.YtkmeeblkckfepabGreatPk6
namespace Go.Proofs.YtkmeeblkckfepabGreat
open Go.RowKit
set_option linter.unusedSimpArgs false
set_option linter.unusedVariables false

theorem pre_fit (I : Nat → Itm) (n : Nat) (hn : n ≤ 262144) (hok : ∀ i, i < n → okI I i = true) (k : Nat) (hk : k ≤ n) : Sfit (pre I k) := by
  have := pre_le I n hok k hk
  unfold Sfit
  omega
/-- What a line's items come to stays within bounds. -/
theorem upt_le (I : Nat → Itm) (n : Nat) (hn : n ≤ 262144) (hok : ∀ i, i < n → okI I i = true) (a b : Int) : (0 ≤ (upt I n a b).w ∧ (upt I n a b).w ≤ 18014398509481984) ∧ (0 ≤ (upt I n a b).st ∧ (upt I n a b).st ≤ 18014398509481984) ∧ (0 ≤ (upt I n a b).sh ∧ (upt I n a b).sh ≤ 18014398509481984) ∧ (0 ≤ (upt I n a b).f ∧ (upt I n a b).f ≤ 262144) := by
  unfold upt
  split
  · rename_i h
    have h1 := pre_le I n hok b.toNat (by omega)
    have h2 := pre_le I n hok (sta I n a) (sta_le I n a)
    have h3 := pre_mono I n hok (sta I n a) b.toNat (by omega) (by omega)
    simp only [Sm.sub]
    omega
  · simp [Sm.zero]
section
variable {S : Nat → Prop} {w : World} {pb n : Nat} {I : Nat → Itm}
set_option maxRecDepth 100000 in
set_option maxHeartbeats 2000000 in
theorem upTo_any (h : ParaAt S w pb n I) (hn : n ≤ 262144) (hok : ∀ i, i < n → okI I i = true) (a b : Int) : Calls Tryz.prog 74 #[.pointer (some ⟨pb, 0, none⟩), .int .i64 a, .int .i64 b] w fun e w' => e = .returned (upt I n a b).val ∧ Below w.heap.size w w' := by
  obtain ⟨w0, hw0, hb0, hz0, HN⟩ := res4 w _ rfl
  replace HN := boxed HN
  have h' := h.below hb0
  obtain ⟨lo', lc', eo', ec', so', sc', uo', uc, -, ⟨k0, k1, k2, k3, k4⟩, -, -, -, g4⟩ := h
  have hst := start_any h' hn a
  have hhas := has_any h' hn b
  have hsl := sta_le I n a
  obtain ⟨lo, lc, eo, ec, so, sc, uo, uc2, hs, ⟨c0, c1, c2, c3, c4⟩, h1, h2, h3, h4⟩ := h'
  clear h1 h2 h3
  unfold hasI at hhas
  have HB0 := boxed hb0
  clear hb0
  by_cases g1 : 0 ≤ b ∧ b < (n : Int)
  · have e1 : (decide (0 ≤ b) && decide (b < (n : Int))) = true := by simp [g1]
    rw [e1] at hhas
    clear e1
    obtain ⟨b, rfl⟩ : ∃ j : Nat, b = (j : Int) := ⟨b.toNat, by omega⟩
    have hbn : b < n := by omega
    by_cases g2 : sta I n a < b
    · have hU : upt I n a (b : Int) = (pre I b).sub (pre I (sta I n a)) := by unfold upt; rw [if_pos (by omega), Int.toNat_natCast]
      have hle := fun w => less_any (pre I b) (pre I (sta I n a)) w (pre_fit I n hn hok b (by omega)) (pre_fit I n hn hok _ hsl)
      rw [hU]
      generalize sta I n a = s0 at *
      have t1 : decide ((b : Int) ≤ (s0 : Int)) = false := decide_eq_false (by omega)
      have t1' : decide (b ≤ s0) = false := decide_eq_false (by omega)
      obtain ⟨ub, e, -, d0, d1, d2, d3⟩ := g4 b hbn
      obtain ⟨ub', e', -, f0, f1, f2, f3⟩ := g4 s0 (by omega)
      subst e
      injection e' with e'
      injection e' with e1 e2 e3
      subst e1
      clear g4 h4 hU e2 e3
      unfold Sm.val at hle ⊢
      generalize pre I b = P at *
      generalize pre I s0 = Q at *
      generalize P.sub Q = R at *
      have HX : Box (∀ W, Below w.heap.size w W → (W.cell? ⟨pb, 3, none⟩ = some (.slice (some ⟨ub, 0, none⟩) n uc)) ∧ (W.cell? ⟨ub, b * 4, none⟩ = some (.int .i64 P.w) ∧ W.cell? ⟨ub, b * 4 + 1, none⟩ = some (.int .i64 P.st) ∧ W.cell? ⟨ub, b * 4 + 2, none⟩ = some (.int .i64 P.sh) ∧ W.cell? ⟨ub, b * 4 + 3, none⟩ = some (.int .i64 P.f)) ∧
          (W.cell? ⟨ub, s0 * 4, none⟩ = some (.int .i64 Q.w) ∧ W.cell? ⟨ub, s0 * 4 + 1, none⟩ = some (.int .i64 Q.st) ∧ W.cell? ⟨ub, s0 * 4 + 2, none⟩ = some (.int .i64 Q.sh) ∧ W.cell? ⟨ub, s0 * 4 + 3, none⟩ = some (.int .i64 Q.f))) := boxed (fun W hb =>
        ⟨hold hb k3, ⟨hold hb d0, hold hb d1, hold hb d2, hold hb d3⟩, hold hb f0, hold hb f1, hold hb f2, hold hb f3⟩)
      have HD0 : Box (Below w.heap.size w w0.drew) := boxed HB0.out.drew
      have g5 : s0 < n := by omega
      have g6 : (s0 : Int) < (n : Int) := by omega
      have g7 : (b : Int) < (n : Int) := by omega
      clear k0 k1 k2 k3 k4 d0 d1 d2 d3 f0 f1 f2 f3 c0 c1 c2 c3 c4
      go_enter Tryz.func74, Tryz.ntmps74
      go_wp2_with (first | (go_at_call 80; refine hst.mono ?_; rintro e w' ⟨rfl, hw'⟩; subst w') | (go_at_call 71; refine hhas.mono ?_; rintro e w' ⟨rfl, hw'⟩; subst w'))
      go_region_held3 (fun W => (W.cell? ⟨pb, 3, none⟩ = some (.slice (some ⟨ub, 0, none⟩) n uc)) ∧ (W.cell? ⟨ub, b * 4, none⟩ = some (.int .i64 P.w) ∧ W.cell? ⟨ub, b * 4 + 1, none⟩ = some (.int .i64 P.st) ∧ W.cell? ⟨ub, b * 4 + 2, none⟩ = some (.int .i64 P.sh) ∧ W.cell? ⟨ub, b * 4 + 3, none⟩ = some (.int .i64 P.f)) ∧
          (W.cell? ⟨ub, s0 * 4, none⟩ = some (.int .i64 Q.w) ∧ W.cell? ⟨ub, s0 * 4 + 1, none⟩ = some (.int .i64 Q.st) ∧ W.cell? ⟨ub, s0 * 4 + 2, none⟩ = some (.int .i64 Q.sh) ∧ W.cell? ⟨ub, s0 * 4 + 3, none⟩ = some (.int .i64 Q.f)))
        (first | with_reducible exact HX.out _ HD0.out | with_reducible exact HX.out _ HB5.out | with_reducible exact HX.out _ HF.out)
        (first | (go_at_call 81; refine (hle _).mono ?_; rintro e w1 ⟨rfl, hb⟩; have hb1 := below_step (Below.refl w0.heap.size w0).drew (Nat.le_refl _) hb; have HB5 := boxed (HB0.out.trans (hb1.mono (by omega))); obtain ⟨⟨⟨x0, x1, x2, x3⟩, y0, y1, y2, y3⟩, HQ, HF, -⟩ := HN.out _ hb1 (.int .i64 R.w) (.int .i64 R.st) (.int .i64 R.sh) (.int .i64 R.f); simp only [put4] at HQ HF; replace HQ := boxed HQ; replace HF := boxed HF; clear hb hb1 hle))
      go_wp2_with fail
      refine bodyPost_ret (v := .agg #[.int .i64 R.w, .int .i64 R.st, .int .i64 R.sh, .int .i64 R.f]) (by have q := HQ.out; simp [results, Tryz.results74, go_sem, q]) rfl ⟨rfl, HF.out⟩
    · have hU : upt I n a (b : Int) = Sm.zero := by unfold upt; rw [if_neg (by omega)]
      rw [hU]
      generalize sta I n a = s0 at *
      have t1 : decide ((b : Int) ≤ (s0 : Int)) = true := decide_eq_true (by omega)
      have t1' : decide (b ≤ s0) = true := decide_eq_true (by omega)
      clear h4 hU
      unfold Sm.val Sm.zero
      obtain ⟨⟨⟨x0, x1, x2, x3⟩, y0, y1, y2, y3⟩, HQ, HF, -⟩ := HN.out _ (Below.refl _ _) (.int .i64 0) (.int .i64 0) (.int .i64 0) (.int .i64 0)
      replace HQ := boxed HQ
      replace HF := boxed HF
      go_enter Tryz.func74, Tryz.ntmps74
      go_wp2_with (first | (go_at_call 80; refine hst.mono ?_; rintro e w' ⟨rfl, hw'⟩; subst w') | (go_at_call 71; refine hhas.mono ?_; rintro e w' ⟨rfl, hw'⟩; subst w'))
      refine bodyPost_ret (v := .agg #[.int .i64 0, .int .i64 0, .int .i64 0, .int .i64 0]) (by have q := HQ.out; simp only [put4] at q; simp [results, Tryz.results74, go_sem, q]) rfl ⟨rfl, HF.out⟩
  · have e1 : (decide (0 ≤ b) && decide (b < (n : Int))) = false := by simp; omega
    rw [e1] at hhas
    have hU : upt I n a b = Sm.zero := by unfold upt; rw [if_neg (by omega)]
    rw [hU]
    clear h4 hU e1
    unfold Sm.val Sm.zero
    obtain ⟨⟨⟨x0, x1, x2, x3⟩, y0, y1, y2, y3⟩, HQ, HF, -⟩ := HN.out _ (Below.refl _ _) (.int .i64 0) (.int .i64 0) (.int .i64 0) (.int .i64 0)
    replace HQ := boxed HQ
    replace HF := boxed HF
    generalize sta I n a = s0 at *
    go_enter Tryz.func74, Tryz.ntmps74
    go_wp2_with (first | (go_at_call 80; refine hst.mono ?_; rintro e w' ⟨rfl, hw'⟩; subst w') | (go_at_call 71; refine hhas.mono ?_; rintro e w' ⟨rfl, hw'⟩; subst w'))
    refine bodyPost_ret (v := .agg #[.int .i64 0, .int .i64 0, .int .i64 0, .int .i64 0]) (by have q := HQ.out; simp only [put4] at q; simp [results, Tryz.results74, go_sem, q]) rfl ⟨rfl, HF.out⟩
set_option maxRecDepth 100000 in
set_option maxHeartbeats 2000000 in
theorem bounds_any (h : ParaAt S w pb n I) (hn : n ≤ 262144) (hok : ∀ i, i < n → okI I i = true) (a b : Int) : Calls Tryz.prog 67 #[.pointer (some ⟨pb, 0, none⟩), .int .i64 a, .int .i64 b] w fun e w' =>
    e = .returned (.tuple #[.int .i64 ((upt I n a b).w - (upt I n a b).sh), .int .i64 ((upt I n a b).w + 5 * (upt I n a b).st + wst I n), .bool (decide (0 < (upt I n a b).f))]) ∧ Below w.heap.size w w' := by
  have hu := upTo_any h hn hok a b
  have hle := upt_le I n hn hok a b
  have hw := (wst_le I n hok n (Nat.le_refl _)).1
  obtain ⟨lo, lc, eo, ec, so, sc, uo, uc, hs, ⟨c0, c1, c2, c3, c4⟩, h1, h2, h3, h4⟩ := h
  clear h1 h2 h3 h4
  unfold Sm.val at hu
  generalize upt I n a b = U at *
  generalize wst I n = M at *
  go_enter Tryz.func67, Tryz.ntmps67
  go_wp2_with fail
  refine hu.mono ?_
  rintro e w1 ⟨rfl, hb⟩
  have d4 := hold hb c4
  have q1 : pb < w1.heap.size := World.block_lt_of_cell? w1 _ d4
  have q2 : pb ≠ w1.heap.size := by omega
  have HB := boxed hb
  clear hb hu
  go_wp2_with fail
  go_quiet (fail)
  go_wp2_with fail
  go_ret3
  exact ⟨rfl, (HB.out.alloc HB.out.size _).trans (bel_drewN _ _ _)⟩
set_option maxRecDepth 100000 in
set_option maxHeartbeats 2000000 in
theorem line_any (h : ParaAt S w pb n I) (hn : n ≤ 262144) (hok : ∀ i, i < n → okI I i = true) (a b : Int) : Calls Tryz.prog 73 #[.pointer (some ⟨pb, 0, none⟩), .int .i64 a, .int .i64 b] w fun e w' => e = .returned (lin I n a b).val ∧ Below w.heap.size w w' := by
  obtain ⟨w0, hw0, hb0, hz0, HN⟩ := res4 w _ rfl
  replace HN := boxed HN
  have hu := upTo_any (h.below hb0) hn hok a b
  have hle := upt_le I n hn hok a b
  have hit := boxed (fun W (hb : Below w.heap.size w W) => item_any (h.below hb) hn b)
  have had := fun W => added_any (itm I n b) W
  have hil : 0 ≤ addd (itm I n b) ∧ addd (itm I n b) ≤ 68719476736 := by
    unfold itm addd
    split
    · rename_i c
      have := okI_ms I b.toNat (hok _ (by omega))
      split <;> omega
    · simp [Itm.zero]
  unfold lin Sm.val
  simp only
  unfold Sm.val at hu
  unfold Itm.val at had hit
  generalize upt I n a b = U at *
  generalize addd (itm I n b) = D at *
  generalize itm I n b = x at *
  have HB0 := boxed hb0
  clear hb0
  go_enter Tryz.func73, Tryz.ntmps73
  go_wp2_with fail
  refine hu.mono ?_
  rintro e w1 ⟨rfl, hb1⟩
  have HB1 := boxed (below_step HB0.out (Nat.le_refl _) hb1)
  have HE1 := boxed hb1
  clear hb1 hu
  obtain ⟨wS, hwS⟩ : ∃ wS, w1.alloc (.cells #[.int .i64 U.w, .int .i64 U.st, .int .i64 U.sh, .int .i64 U.f] 88) = wS := ⟨_, rfl⟩
  have hbS : Below w1.heap.size w1 wS := by rw [← hwS]; exact (Below.refl _ _).alloc (Nat.le_refl _) _
  have hzS : wS.heap.size = w1.heap.size + 1 := by rw [← hwS]; simp
  have heS : wS.heap[w1.heap.size]? = some (.cells #[.int .i64 U.w, .int .i64 U.st, .int .i64 U.sh, .int .i64 U.f] 88 (0, 0)) := by rw [← hwS]; exact heap_alloc_new w1 _
  obtain ⟨SB, hSB⟩ : ∃ SB, w1.heap.size = SB := ⟨_, rfl⟩
  rw [hSB] at heS hzS
  have hzSB : w0.heap.size ≤ SB := by rw [← hSB]; exact HE1.out.size
  have HK : Box (∀ W, Below wS.heap.size wS W → W.heap[SB]? = some (.cells #[.int .i64 U.w, .int .i64 U.st, .int .i64 U.sh, .int .i64 U.f] 88 (0, 0)) ∧ Below w.heap.size w W ∧ Below w0.heap.size w0 W) := boxed (fun W hb =>
    ⟨(hb.block SB (by omega)).trans heS, below_step (below_step HB1.out (Nat.le_refl _) hbS) (Nat.le_refl _) hb, below_step (below_step HE1.out (Nat.le_refl _) hbS) (Nat.le_refl _) hb⟩)
  have HD : Box (Below wS.heap.size wS wS.drew) := boxed (Below.refl _ _).drew
  have HDw : Box (Below w.heap.size w wS.drew) := boxed ((HK.out _ (Below.refl _ _)).2.1.drew)
  obtain ⟨⟨a0, a1, a2, a3⟩, y0, y1, y2, y3⟩ := cells4 (HK.out _ HD.out).1
  have hSB2 := boxed hSB
  have hwS2 := boxed hwS
  clear hbS heS hw0 h
  go_wp2_with fail
  go_region_with (first
    | (go_at_call 62; refine (hit.out _ HDw.out).mono ?_; rintro e w2 ⟨rfl, hb2⟩; have HK2 := boxed (below_step HD.out (Nat.le_refl _) hb2); obtain ⟨⟨b0, b1, b2, b3⟩, z0, z1, z2, z3⟩ := cells4 (HK.out _ HK2.out).1; clear hb2)
    | (go_at_call 43; refine (had _).mono ?_; rintro e w3 ⟨rfl, hb3⟩; have HK3 := boxed (below_step HK2.out (Nat.le_refl _) hb3); obtain ⟨⟨d0, d1, d2, d3⟩, x0, x1, x2, x3⟩ := cells4 (HK.out _ HK3.out).1; clear hb3))
  all_goals
    have ew : IntKind.i64.wrap (U.w + D) = U.w + D := by rw [IntKind.wrap_i64]; omega
    rw [ew]
    have e3 := (HK.out _ HK3.out).1
    have F1 : (w3.setCell ⟨SB, 0, none⟩ (.int .i64 (U.w + D))).heap[SB]? = some (.cells #[.int .i64 (U.w + D), .int .i64 U.st, .int .i64 U.sh, .int .i64 U.f] 88 (0, 0)) := by simp [World.setCell, Array.getElem?_modify, e3]
    have F2 : Below w0.heap.size w0 (w3.setCell ⟨SB, 0, none⟩ (.int .i64 (U.w + D))) := (HK.out _ HK3.out).2.2.setCell (by simp only; omega) _
    obtain ⟨⟨⟨p0, p1, p2, p3⟩, r0, r1, r2, r3⟩, HQ, HF, -⟩ := HN.out _ F2 (.int .i64 (U.w + D)) (.int .i64 U.st) (.int .i64 U.sh) (.int .i64 U.f)
    obtain ⟨⟨s0, s1, s2, s3⟩, -⟩ := cells4 F1
    simp only [put4] at HQ HF
    clear a0 a1 a2 a3 y0 y1 y2 y3 b0 b1 b2 b3 z0 z1 z2 z3 d0 d1 d2 d3 x0 x1 x2 x3 e3 F1 F2 hit had ew HK2 HK3 hwS
    generalize w3.setCell ⟨SB, 0, none⟩ (.int .i64 (U.w + D)) = w4 at *
    replace HQ := boxed HQ
    replace HF := boxed HF
    have hne : SB ≠ w.heap.size := by omega
    have hne2 : w.heap.size ≠ SB := by omega
    go_wp2_with fail
    refine bodyPost_ret (v := .agg #[.int .i64 (U.w + D), .int .i64 U.st, .int .i64 U.sh, .int .i64 U.f]) (by have q := HQ.out; simp [results, Tryz.results73, go_sem, q]) rfl ⟨rfl, HF.out⟩
/-- What a line's items come to, with what the break adds, stays within bounds. -/
theorem lin_ok (I : Nat → Itm) (n : Nat) (hn : n ≤ 262144) (hok : ∀ i, i < n → okI I i = true) (a b width : Int) (hw : -1099511627776 ≤ width ∧ width ≤ 1099511627776) : SmOk (lin I n a b) width ∧ 0 ≤ (lin I n a b).sh := by
  have h1 := upt_le I n hn hok a b
  have h2 : 0 ≤ addd (itm I n b) ∧ addd (itm I n b) ≤ 68719476736 := by
    unfold itm addd
    split
    · rename_i c
      have := okI_ms I b.toNat (hok _ (by omega))
      split <;> omega
    · simp [Itm.zero]
  unfold SmOk lin
  simp only
  omega
set_option maxRecDepth 100000 in
set_option maxHeartbeats 2000000 in
theorem pfit_any (h : ParaAt S w pb n I) (hn : n ≤ 262144) (hok : ∀ i, i < n → okI I i = true) (a b width : Int) (hw : -1099511627776 ≤ width ∧ width ≤ 1099511627776) : Calls Tryz.prog 63 #[.pointer (some ⟨pb, 0, none⟩), .int .i64 a, .int .i64 b, .int .i64 width] w fun e w' => e = .returned (setF (lin I n a b) width).val ∧ Below w.heap.size w w' := by
  obtain ⟨w0, hw0, hb0, hz0, HN⟩ := res5 w _ rfl
  replace HN := boxed HN
  have hl := line_any (h.below hb0) hn hok a b
  have hse := fun W => set_any (lin I n a b) width W (lin_ok I n hn hok a b width hw).1
  generalize lin I n a b = L at *
  obtain ⟨f0, f1, f2, f3, f4, hF⟩ : ∃ a b c d e, setF L width = ⟨a, b, c, d, e⟩ := ⟨_, _, _, _, _, rfl⟩
  rw [hF] at hse ⊢
  unfold Sm.val at hl hse
  unfold Ft.val at hse ⊢
  simp only at hse ⊢
  clear hF h hb0
  go_enter Tryz.func63, Tryz.ntmps63
  go_wp2_with fail
  refine hl.mono ?_
  rintro e w1 ⟨rfl, hb1⟩
  have HB1 := boxed hb1
  clear hb1 hl
  go_wp2_with fail
  refine (hse _).mono ?_
  rintro e w2 ⟨rfl, hb2⟩
  have HB2 := boxed (below_step HB1.out (Nat.le_refl _) hb2)
  clear hb2 hse
  obtain ⟨⟨⟨d0, d1, d2, d3, d4⟩, g0, g1, g2, g3, g4⟩, HQ, HF, -⟩ := HN.out _ HB2.out (.int .i64 f0) (.int .i64 f1) (.int .i64 f2) (.int .i64 f3) (.bool f4)
  replace HQ := boxed HQ
  replace HF := boxed HF
  go_wp2_with fail
  refine bodyPost_ret (v := .agg #[.int .i64 f0, .int .i64 f1, .int .i64 f2, .int .i64 f3, .bool f4]) (by have q := HQ.out; simp only [put5] at q; simp [results, Tryz.results63, go_sem, q]) rfl ⟨rfl, HF.out⟩
end
end Go.Proofs.YtkmeeblkckfepabGreat

/-
  Plain: for a later end neither of a line's bounds falls; what can't be narrow enough doesn't fit, and what can't be wide enough is as bad as may be. No walk.
-/
namespace Go.Proofs.YtkmeeblkckfepabGreat
set_option linter.unusedSimpArgs false
set_option linter.unusedVariables false

/-- For a later end. -/
theorem upt_mono (I : Nat → Itm) (n : Nat) (hok : ∀ i, i < n → okI I i = true) (a : Int) (k : Nat) (hk : k + 1 < n) :
    (upt I n a (k : Int)).w - (upt I n a (k : Int)).sh ≤ (upt I n a ((k + 1 : Nat) : Int)).w - (upt I n a ((k + 1 : Nat) : Int)).sh ∧
    (upt I n a (k : Int)).w + 5 * (upt I n a (k : Int)).st ≤ (upt I n a ((k + 1 : Nat) : Int)).w + 5 * (upt I n a ((k + 1 : Nat) : Int)).st ∧
    (upt I n a (k : Int)).f ≤ (upt I n a ((k + 1 : Nat) : Int)).f := by
  have hs := sta_le I n a
  unfold upt
  rw [Int.toNat_natCast, Int.toNat_natCast]
  by_cases c1 : sta I n a < k
  · rw [if_pos (by omega), if_pos (by omega)]
    have h1 := pre_mono I n hok k (k + 1) (by omega) (by omega)
    simp only [Sm.sub]
    omega
  · rw [if_neg (by omega)]
    by_cases c2 : sta I n a < k + 1
    · rw [if_pos (by omega)]
      have h1 := pre_mono I n hok (sta I n a) (k + 1) (by omega) (by omega)
      simp only [Sm.sub, Sm.zero]
      omega
    · rw [if_neg (by omega)]
      simp [Sm.zero]
theorem itm_add (I : Nat → Itm) (n : Nat) (hok : ∀ i, i < n → okI I i = true) (b : Nat) (hb : b < n) : 0 ≤ addd (itm I n (b : Int)) ∧ addd (itm I n (b : Int)) ≤ wst I n := by
  have e : itm I n (b : Int) = I b := by unfold itm; rw [if_pos (by omega), Int.toNat_natCast]
  rw [e]
  have h1 := okI_ms I b (hok b hb)
  have h2 := (wst_le I n hok n (Nat.le_refl _)).2 b hb
  refine ⟨?_, h2⟩
  unfold addd
  split <;> omega
/-- What can't be narrow enough doesn't fit. -/
theorem fit_over (I : Nat → Itm) (n : Nat) (hn : n ≤ 262144) (hok : ∀ i, i < n → okI I i = true) (a : Int) (b : Nat) (hb : b < n) (width : Int)
    (h : width < (upt I n a (b : Int)).w - (upt I n a (b : Int)).sh) : (setF (lin I n a (b : Int)) width).over = true := by
  have h1 := upt_le I n hn hok a (b : Int)
  have h2 := itm_add I n hok b hb
  unfold setF lin
  simp only
  rw [if_neg (by omega), if_neg (by omega)]
  unfold shF
  rw [if_pos (by omega)]
  rfl
/-- What can't be wide enough is as bad as may be. -/
theorem fit_bad (I : Nat → Itm) (n : Nat) (hn : n ≤ 262144) (hok : ∀ i, i < n → okI I i = true) (a : Int) (b : Nat) (hb : b < n) (width : Int) (hw : -1099511627776 ≤ width ∧ width ≤ 1099511627776)
    (h : (upt I n a (b : Int)).w + 5 * (upt I n a (b : Int)).st + wst I n < width) (hf : ¬ 0 < (upt I n a (b : Int)).f) : (setF (lin I n a (b : Int)) width).bad = 10000 := by
  have h1 := upt_le I n hn hok a (b : Int)
  have h2 := itm_add I n hok b hb
  unfold setF lin
  simp only
  rw [if_neg (by omega), if_pos (by omega)]
  unfold stF
  split
  · rfl
  · rename_i hz
    simp only
    generalize (upt I n a (b : Int)).st = s at *
    generalize hT : width - ((upt I n a (b : Int)).w + addd (itm I n (b : Int))) = t at *
    have ct : cl t = t := cl_same t (by omega) (by omega)
    have cs : cl s = s := cl_same s (by omega) (by omega)
    unfold bd
    rw [ct, cs, if_neg (by omega), if_neg (by omega), bw_great t.toNat s.toNat (by omega) (by omega)]
    rfl
end Go.Proofs.YtkmeeblkckfepabGreat

/-
  What the document's Legal and Start answer; what the statements' para does.
-/
namespace Go.Proofs.YtkmeeblkckfepabGreat
open Go.RowKit
set_option linter.unusedSimpArgs false
set_option linter.unusedVariables false

set_option maxRecDepth 100000 in
set_option maxHeartbeats 4000000 in
theorem reflegal8_any (S : Nat → Prop) (ao : Option Addr) (n c : Nat) (I : Nat → Itm) (w : World) (h : ItsAt S w ao n I) (hm : n ≤ 262144) :
    Calls Tryz.prog 12 #[.slice ao n c] w fun e w' => ∃ v', e = .returned v' ∧ w'.ownsRow w.heap.size 3 1 v' (lgs I n n).length (ncs (lgs I n n)) ∧ Below w.heap.size w w' := by
  obtain ⟨i0, hi, hz0, hz1, hz2⟩ := info_parts info_int8
  have HH := boxed h
  clear h
  obtain ⟨B, hB⟩ : ∃ B, w.heap.size = B := ⟨_, rfl⟩
  rw [hB]
  go_enter Tryz.func12, Tryz.ntmps12
  go_wp2_with fail
  go_loopw [3, 4] (fun v i wr => ∃ k : Nat, k ≤ n ∧ i = .int .i64 (k : Int) ∧ Box (wr.ownsRow B 3 1 v (lgs I n k).length (ncs (lgs I n k))) ∧ Box (Below B w wr)) (fun _ i _ => n - (intOf i).toNat)
  case atStart => exact ⟨0, Nat.zero_le _, rfl, boxed (World.ownsRow_nil _ _ _ _), boxed (Below.refl _ _)⟩
  case round =>
    obtain ⟨k, hk, rfl, HO, HB⟩ := hrel
    by_cases hlt : k < n
    · have hbs : B ≤ wr.heap.size := by have := HB.out.size; omega
      have hl := reflegal_any S ao n c I wr (HH.out.below (by rw [hB]; exact HB.out)) (by unfold maxLen; omega) k
      have t3 : decide ((k : Int) < (n : Int)) = true := decide_eq_true (by omega)
      have hlen := lgs_len I n k
      have HE := boxed (show lgs I n (k + 1) = if legl I n k = true then lgs I n k ++ [k] else lgs I n k from rfl)
      cases hg : legl I n k
      · rw [hg] at hl HE
        have HE2 : Box (lgs I n (k + 1) = lgs I n k) := boxed (by rw [HE.out]; rfl)
        clear hg HE
        generalize lgs I n k = L at *
        go_wp2_with fail
        refine hl.mono ?_
        rintro e w2 ⟨rfl, hb2⟩
        have HB2 := boxed (HB.out.trans (hb2.mono hbs))
        have HO2 := boxed (owns_below HO.out hb2)
        clear hb2 hl
        go_wp2_with fail
        go_roundw
        case rel => exact ⟨k + 1, by omega, by go_num, by rw [HE2.out]; exact HO2, HB2⟩
        case measure => simp [intOf]; omega
      · rw [hg] at hl HE
        have HE2 : Box (lgs I n (k + 1) = lgs I n k ++ [k]) := boxed (by rw [HE.out]; rfl)
        clear hg HE
        generalize lgs I n k = L at *
        go_wp2_with fail
        refine hl.mono ?_
        rintro e w2 ⟨rfl, hb2⟩
        have HB2 := boxed (HB.out.trans (hb2.mono hbs))
        have hown := owns_below HO.out hb2
        have hbs2 : B ≤ w2.heap.size := Nat.le_trans hbs hb2.size
        clear hb2 hl HO HB
        generalize hM : L.length = M at *
        go_wp2_with (first | (at_builtin; refine wpList_append_own _ rfl _ _ 31 rfl B 3 i0 _ 1 8 Tryz.underlying31 hi hz0 hz1 hz2 rfl (by decide) _ _ _ rfl (hown.alloc _) ⟨w2.heap.size, 0, none⟩ 1 1 [.int .i64 (k : Nat)] rfl rfl ?c1 ?c2 ?c3 ?c4 ?c5 ?_))
        case c1 =>
          intro j u hj
          match j, hj with
          | 0, hj => simp at hj; subst hj; simp [Addr.add]
        case c2 => intro u hu; simp at hu; subst hu; rfl
        case c3 => unfold maxLen; omega
        case c4 => omega
        case c5 => simp; omega
        intro v' w6 hown6 hgrow6 _
        have HO6 := boxed hown6
        have HG6 := boxed (HB2.out.trans (grown_any hown hbs2 hgrow6))
        clear hown6 hgrow6 hown
        go_wp2_with fail
        go_roundw
        case rel => exact ⟨k + 1, by omega, by go_num, boxed (by rw [HE2.out, ncs_app, List.length_append, hM]; exact HO6.out), HG6⟩
        case measure => simp [intOf]; omega
    · have e : k = n := by omega
      subst e
      go_wp2
      go_ret
      exact ⟨_, rfl, HO.out, HB.out⟩
end Go.Proofs.YtkmeeblkckfepabGreat

/-
  Plain: a paragraph has a place at which a line may end. No walk.
-/
namespace Go.Proofs.YtkmeeblkckfepabGreat
open Go.RowKit
set_option linter.unusedSimpArgs false
set_option linter.unusedVariables false

theorem legl_last (I : Nat → Itm) (n k : Nat) (h : k < n) (hf : forc (I k) = true) : legl I n k = true := by
  simp [forc] at hf
  rw [legl_pen I n k h hf.1]
  simp
  omega
theorem lgs_pos (I : Nat → Itm) (n : Nat) (h : 0 < n) (hf : forc (I (n - 1)) = true) : 0 < (lgs I n n).length := by
  obtain ⟨m, rfl⟩ : ∃ m, n = m + 1 := ⟨n - 1, by omega⟩
  have e := legl_last I (m + 1) m (by omega) hf
  simp only [lgs]
  rw [if_pos e]
  simp
theorem own_form {w : World} {B m : Nat} {v : Value} {xs : List Value} (h : w.ownsRow B 3 1 v m xs) (hm : 0 < m) : ∃ g c, v = .slice (some ⟨g, 0, none⟩) m c ∧ B ≤ g ∧ g < w.heap.size := by
  rcases ownsRow_forms h with ⟨_, h2⟩ | ⟨g, c, rfl⟩
  · omega
  · exact ⟨g, c, rfl, (h.lt g rfl).1, (h.lt g rfl).2⟩
theorem kp_grown {S : Nat → Prop} {w w' : World} {lb : Nat} (h : w.grownBy w' (some lb)) (hS : ∀ b, S b → b ≠ lb) : Kp S S w w' := fun b i u hs hc => ⟨hs, by
  have hb := World.block_lt_of_cell? w _ hc
  rw [World.cell?_of_block (a := ⟨b, i, none⟩) (h.block b hb (fun e => hS b hs (by injection e)))]; exact hc⟩
theorem endN_at (L : List Nat) (k : Nat) (h : k < L.length) : endN L (k : Int) = (L.getD k 0 : Nat) := by
  unfold endN
  rw [if_pos (by omega), Int.toNat_natCast]
theorem below_grown {w w' : World} (h : Below w.heap.size w w') (row : Option Nat) : w.grownBy w' row := ⟨h.os, h.tape, h.output, h.size, fun k hk _ => h.block k hk⟩
end Go.Proofs.YtkmeeblkckfepabGreat
