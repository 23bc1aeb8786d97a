/-
  What the document's Delete answers.
-/
import Derived.Test.YtholifolkimkdaaGq
import Derived.Test.YtholifolkimkdaaGm
namespace Go.Proofs.Ytholifolkimkdaa
open Go.RowKit
set_option linter.unusedSimpArgs false
set_option linter.unusedVariables false

/-- The text that a deletion leaves. -/
def delR (s : ByteArray) (a b : Int) : ByteArray := if outb s.size a b = true ∨ a = b then s else s.extract 0 a.toNat ++ s.extract b.toNat s.size
theorem ln_delR (s : ByteArray) (a b : Int) : ln (delR s a b) = delL (ln s) a b := by
  unfold delR delL
  rw [ln_len]
  by_cases c : outb s.size a b = true
  · rw [if_pos (.inl c), if_pos c]
  · rw [if_neg c]
    by_cases d : a = b
    · rw [if_pos (.inr d), d, List.take_append_drop]
    · rw [if_neg (by rintro (h | h); exact c h; exact d h), ln_app, ln_ext, ln_ext, List.drop_zero, List.take_of_length_le (i := s.size) (by rw [ln_len]; exact Nat.le_refl _)]

set_option maxRecDepth 100000 in
set_option maxHeartbeats 4000000 in
theorem rdelete_ok (s : ByteArray) (a b : Nat) (w : World) (hs : s.size ≤ 65536) (hab : a < b) (hb : b ≤ s.size) :
    Calls Try.prog 29 #[.string s, .int .i64 (a : Nat), .int .i64 (b : Nat)] w fun e w' => RefP w (s.extract 0 a ++ s.extract b s.size) (fnd (ln s) a) (dlo (ln s) a b) (hd0 (dll (ln s) a b)).length 0 e w' := by
  obtain ⟨w0, hw0⟩ : ∃ w0, w.alloc (.cells #[.int .i64 0, .int .i64 0, .int .i64 0] 30) = w0 := ⟨_, rfl⟩
  have hb0 : Below w.heap.size w w0 := by rw [← hw0]; exact new_below _ _
  have hzs0 : w0.heap.size = w.heap.size + 1 := by rw [← hw0]; exact new_size _ _
  have HN : Box (∀ W, Below w0.heap.size w0 W → W.heap[w.heap.size]? = some (.cells #[.int .i64 0, .int .i64 0, .int .i64 0] 30 (0, 0))) := boxed (fun W hb => by rw [hb.block w.heap.size (by omega), ← hw0]; exact heap_alloc_new w _)
  have HB0 := boxed hb0
  have hsp := fun W => rspan_any s (a : Nat) (b : Nat) W
  have ho0 : outb s.size a b = false := (outb_iff _ _ _).2 (by omega)
  rw [ho0, if_neg (by simp)] at hsp
  have z : ((a : Int) == (b : Int)) = false := by rw [beq_eq_false_iff_ne]; omega
  have z' : (a == b) = false := by rw [beq_eq_false_iff_ne]; omega
  have hf1 := fun W => rfind_any s a W (by omega) (by omega)
  have hf2 := fun W => rfind_any s (b - 1) W (by omega) (by omega)
  have hst := fun W => starts_any s W (by omega)
  clear hb0 ho0
  have hll := ln_len s
  obtain ⟨s1, s2, s3⟩ := fnd_spec (ln s) a (by omega)
  obtain ⟨t1, t2, t3⟩ := fnd_spec (ln s) (b - 1) (by omega)
  have hpq0 := fnd_mono (ln s) a (b - 1) (by omega)
  obtain ⟨-, -, hfin3, hfin4⟩ := del_sp (ln s) a b hab (by omega)
  have hlf := show dll (ln s) a b = a - Bg (sp (ln s)) (fnd (ln s) a) + Bg (sp (ln s)) (fnd (ln s) a + dlo (ln s) a b) - b from rfl
  have hoo := show dlo (ln s) a b = fnd (ln s) (b - 1) + 1 - fnd (ln s) a + (if (0 < a - Bg (sp (ln s)) (fnd (ln s) a) ∧ b = Bg (sp (ln s)) (fnd (ln s) (b - 1) + 1)) ∧ b < (ln s).length then 1 else 0) from rfl
  have hei := end_iff (ln s) b (by omega) (by omega)
  have hbl1 := Bg_le (sp (ln s)) (fnd (ln s) a + dlo (ln s) a b)
  rw [sp_sum] at hbl1
  have hspl := sp_len (ln s)
  have hLg := fun k (hk : k ≤ (sp (ln s)).length) => sts_get (ln s) k hk
  have hLn := sts_len (ln s)
  rw [hll] at hei hspl hbl1 hoo
  rw [ln_bt s (b - 1) (by omega)] at hei
  have hix := idx s (b - 1) (by omega)
  obtain ⟨c, hc⟩ : ∃ c, b - 1 = c := ⟨_, rfl⟩
  rw [hc] at hf2 t1 t2 t3 hpq0 hoo hei hix
  have ec : (b : Int) - 1 = (c : Nat) := by omega
  generalize hP : fnd (ln s) a = p at *
  generalize hQ : fnd (ln s) c = q at *
  generalize hOe : dlo (ln s) a b = O at *
  generalize hLe : dll (ln s) a b = LF at *
  clear hP hQ hOe hLe
  obtain ⟨O0, hO0⟩ : ∃ O0, q + 1 - p = O0 := ⟨_, rfl⟩
  rw [hO0] at hoo
  have eO0 : (q : Int) - (p : Int) + 1 = (O0 : Nat) := by omega
  have hO0b : O0 ≤ 65536 := by omega
  obtain ⟨R, hR⟩ : ∃ R, p + O = R := ⟨_, rfl⟩
  rw [hR] at hfin3 hfin4 hlf hbl1
  obtain ⟨BP, hBP⟩ : ∃ BP, Bg (sp (ln s)) p = BP := ⟨_, rfl⟩
  obtain ⟨BR, hBR⟩ : ∃ BR, Bg (sp (ln s)) R = BR := ⟨_, rfl⟩
  obtain ⟨BQ, hBQ⟩ : ∃ BQ, Bg (sp (ln s)) (q + 1) = BQ := ⟨_, rfl⟩
  rw [hBP] at hfin4 hlf hoo s2
  rw [hBR] at hfin4 hlf hbl1
  rw [hBQ] at hoo hei t3
  generalize hNN : (sp (ln s)).length = NN at *
  have hl1 := hLg p (by omega)
  have hl2 := hLg R hfin3
  rw [hBP] at hl1
  rw [hBR] at hl2
  obtain ⟨X1, hX1⟩ : ∃ X1 : Int, (BR : Int) - (BP : Int) = X1 := ⟨_, rfl⟩
  obtain ⟨X2, hX2⟩ : ∃ X2 : Int, (b : Int) - (a : Int) = X2 := ⟨_, rfl⟩
  have hw0' : IntKind.i64.wrap ((p : Int) + (O : Int)) = (R : Nat) := by rw [IntKind.wrap_i64]; omega
  have hw1 : IntKind.i64.wrap ((BR : Int) - (BP : Int)) = X1 := by rw [IntKind.wrap_i64]; omega
  have hw2 : IntKind.i64.wrap ((b : Int) - (a : Int)) = X2 := by rw [IntKind.wrap_i64]; omega
  have hw3 : IntKind.i64.wrap (X1 - X2) = (LF : Nat) := by rw [IntKind.wrap_i64]; omega
  have hLFb : LF ≤ 131072 := by omega
  clear hX1 hX2
  clear hLg s3 t2 hBP hBR hBQ hNN
  replace hc := boxed hc
  replace hlf := boxed hlf
  replace hoo := boxed hoo
  replace hei := boxed hei
  replace hO0 := boxed hO0
  have hRb : R ≤ 65536 := by omega
  replace hR := boxed hR
  generalize hSS : sts (ln s) = SS at *
  replace hSS := boxed hSS
  go_enter Try.func29, Try.ntmps29
  go_wp2_with (go_at_call 24; refine (hsp _).mono ?_; rintro e w1' ⟨rfl, hw'⟩; subst w1')
  refine (hf1 _).mono ?_
  rintro e w1' ⟨rfl, hw'⟩
  subst w1'
  go_wp2_with fail
  refine (hf2 _).mono ?_
  rintro e w1' ⟨rfl, hw'⟩
  subst w1'
  go_wp2_with fail
  refine (hst _).mono ?_
  rintro e w1 ⟨v, rfl, ho, hb1⟩
  rw [hLn] at ho
  obtain ⟨g, cg, rfl, hg⟩ := own_form ho (by omega)
  have HD1 := boxed hb1
  have HLx : Box (∀ W, Below w1.heap.size w1 W → W.cell? ⟨g, p, none⟩ = some (.int .i64 (BP : Nat)) ∧ W.cell? ⟨g, R, none⟩ = some (.int .i64 (BR : Nat))) := boxed (fun W hb => by
    have h1 := (owns_below ho hb).cellAt p (by omega)
    have h2 := (owns_below ho hb).cellAt R (by omega)
    rw [ncs_get SS p (by omega), hl1] at h1
    rw [ncs_get SS R (by omega), hl2] at h2
    exact ⟨h1, h2⟩)
  clear ho hb1 hst hsp hf1 hf2 hl1 hl2
  obtain ⟨w2, hw2'⟩ : ∃ w2, w1.alloc (.cells #[.int .i64 (p : Nat), .int .i64 (O0 : Nat), .int .i64 0] 30) = w2 := ⟨_, rfl⟩
  have HE2 : Box (Below w1.heap.size w1 w2) := boxed (by rw [← hw2']; exact new_below _ _)
  have HI2 : Box (w2.heap[w1.heap.size]? = some (.cells #[.int .i64 (p : Nat), .int .i64 (O0 : Nat), .int .i64 0] 30 (0, 0))) := boxed (by rw [← hw2']; exact heap_alloc_new w1 _)
  obtain ⟨m1, m2⟩ := HLx.out _ HE2.out
  obtain ⟨⟨y0, y1, y2⟩, g0, g1, g2⟩ := cells3 HI2.out
  have hxi := hix (c : Int) rfl
  have hgl : g < w1.heap.size := by have := World.block_lt_of_cell? w1 _ (HLx.out _ (Below.refl _ _)).1; simpa using this
  have hgne : g ≠ w1.heap.size := by omega
  have hgne' : w1.heap.size ≠ g := by omega
  have q1 : (s.extract 0 a).size = a := by rw [ByteArray.size_extract]; omega
  have q2 : (s.extract b s.size).size = s.size - b := by rw [ByteArray.size_extract]; omega
  have e2q : (q : Int) + 2 = ((q + 2 : Nat) : Int) := by omega
  clear hix e2q
  by_cases c1 : (bt s c : Int) = 10
  · have T1 : ((bt s c : Int) == 10) = true := by rw [beq_iff_eq]; exact c1
    have hei' := hei.out
    rw [T1] at hei'
    have c1' : bt s c = 10 := by omega
    rw [c1'] at hxi
    clear c1 c1' T1 hei
    by_cases c2 : BP < a
    · have T2 : decide ((BP : Int) < (a : Int)) = true := decide_eq_true (by omega)
      have T2' : decide (BP < a) = true := decide_eq_true c2
      by_cases c3 : q + 1 < NN
      · have T3 : decide ((q : Int) + 2 < (NN : Int) + 1) = true := decide_eq_true (by omega)
        have hOO : O = O0 + 1 := by have := hoo.out; rw [if_pos ⟨⟨by omega, (hei'.1 ⟨rfl, c3⟩).1⟩, (hei'.1 ⟨rfl, c3⟩).2⟩] at this; omega
        have eO : (O0 : Int) + 1 = (O : Int) := by omega
        have hOb : O ≤ 65537 := by omega
        replace hOO := boxed hOO
        clear hei'
        go_wp2_with fail
        have h3a := (ib_set (ib_set HI2.out (.int .i64 0)).2.2 (.int .i64 (O : Nat))).2.1
        have h3b := below_set (below_set HE2.out w1.heap.size 2 (Nat.le_refl _) (.int .i64 0)) w1.heap.size 1 (Nat.le_refl _) (.int .i64 (O : Nat))
        obtain ⟨w3, hw3'⟩ : ∃ w3, (w2.setCell ⟨w1.heap.size, 2, none⟩ (.int .i64 0)).setCell ⟨w1.heap.size, 1, none⟩ (.int .i64 (O : Nat)) = w3 := ⟨_, rfl⟩
        rw [hw3'] at h3a h3b ⊢
        have HI3 := boxed h3a
        have HE3 := boxed h3b
        clear h3a h3b hw3' y0 y1 y2 g0 g1 g2 m1 m2
        obtain ⟨k1, k2⟩ := HLx.out _ HE3.out
        obtain ⟨⟨y0, y1, y2⟩, g0, g1, g2⟩ := cells3 HI3.out
        go_quiet (fail)
        have HE4 : Box (Below w1.heap.size w1 (w3.drewN nq)) := boxed (HE3.out.trans (bel_drewN _ _ _))
        have h4 : (w3.drewN nq).heap[w1.heap.size]? = _ := HI3.out
        have HI4 := boxed h4
        clear h4 y0 y1 y2 g0 g1 g2 k1 k2
        generalize w3.drewN nq = w4 at *
        obtain ⟨⟨y0, y1, y2⟩, g0, g1, g2⟩ := cells3 HI4.out
        by_cases hl0 : LF = 0
        · have tL : decide ((0 : Int) < (LF : Int)) = false := decide_eq_false (by omega)
          have tL' : decide (0 < LF) = false := decide_eq_false (by omega)
          have HZ : Box ((hd0 LF).length = 0) := boxed (by rw [hl0]; rfl)
          have HD4 := boxed (HD1.out.trans (HE4.out.mono HD1.out.size))
          obtain ⟨⟨d0, d1, d2⟩, e0, e1, e2⟩ := cells3 (HN.out _ HD4.out)
          have HT := put3_all (HN.out _ HD4.out) (.int .i64 (p : Nat)) (.int .i64 (O : Nat)) (.int .i64 0)
          have HB9 := boxed (HB0.out.trans (HD4.out.mono (by omega)))
          have HFB := boxed (HB9.out.trans (grown_below HT.2.1 (Nat.le_refl _) HB9.out.size))
          obtain ⟨⟨j0, j1, j2⟩, -, -⟩ := HT
          have HR := boxed (And.intro j0 (And.intro j1 j2))
          replace hl0 := boxed hl0
          clear j0 j1 j2 HLx HE3 HI3
          go_wp2_with fail
          go_region
          go_wp2
          refine bodyPost_ret (v := .tuple #[.string (s.extract 0 a ++ s.extract b s.size), .agg #[.int .i64 (p : Nat), .int .i64 (O : Nat), .int .i64 0], .int .i64 0]) (by simp [results, Try.results29, go_sem, HR.out.1, HR.out.2.1, HR.out.2.2]) rfl ?_
          exact ⟨by rw [HZ.out]; rfl, HFB.out.drew⟩
        · have tL : decide ((0 : Int) < (LF : Int)) = true := decide_eq_true (by omega)
          have tL' : decide (0 < LF) = true := decide_eq_true (by omega)
          have HZ : Box ((hd0 LF).length = 1) := boxed (by obtain ⟨y, rfl⟩ : ∃ y, LF = y + 1 := ⟨LF - 1, by omega⟩; rfl)
          go_wp2_with fail
          have h5a := (ib_set HI4.out (.int .i64 1)).2.2
          have h5b := below_set HE4.out w1.heap.size 2 (Nat.le_refl _) (.int .i64 1)
          obtain ⟨w5, hw5⟩ : ∃ w5, w4.setCell ⟨w1.heap.size, 2, none⟩ (.int .i64 1) = w5 := ⟨_, rfl⟩
          rw [hw5] at h5a h5b ⊢
          have HD4 := boxed (HD1.out.trans (h5b.mono HD1.out.size))
          obtain ⟨⟨x0, x1, x2⟩, -⟩ := cells3 h5a
          obtain ⟨⟨d0, d1, d2⟩, e0, e1, e2⟩ := cells3 (HN.out _ HD4.out)
          have HT := put3_all (HN.out _ HD4.out) (.int .i64 (p : Nat)) (.int .i64 (O : Nat)) (.int .i64 1)
          have HB9 := boxed (HB0.out.trans (HD4.out.mono (by omega)))
          have HFB := boxed (HB9.out.trans (grown_below HT.2.1 (Nat.le_refl _) HB9.out.size))
          obtain ⟨⟨j0, j1, j2⟩, -, -⟩ := HT
          have HR := boxed (And.intro j0 (And.intro j1 j2))
          clear j0 j1 j2 HLx HE3 HI3 h5a h5b hw5 y0 y1 y2 g0 g1 g2 HI4
          go_region
          go_wp2
          refine bodyPost_ret (v := .tuple #[.string (s.extract 0 a ++ s.extract b s.size), .agg #[.int .i64 (p : Nat), .int .i64 (O : Nat), .int .i64 1], .int .i64 0]) (by simp [results, Try.results29, go_sem, HR.out.1, HR.out.2.1, HR.out.2.2]) rfl ?_
          exact ⟨by rw [HZ.out]; rfl, HFB.out.drew⟩
      · have T3 : decide ((q : Int) + 2 < (NN : Int) + 1) = false := decide_eq_false (by omega)
        obtain rfl : O = O0 := by have := hoo.out; rw [if_neg (fun h => c3 (hei'.2 ⟨h.1.2, h.2⟩).2)] at this; omega
        clear hei'
        go_wp2_with fail
        have h3a := (ib_set HI2.out (.int .i64 0)).2.2
        have h3b := below_set HE2.out w1.heap.size 2 (Nat.le_refl _) (.int .i64 0)
        obtain ⟨w3, hw3'⟩ : ∃ w3, w2.setCell ⟨w1.heap.size, 2, none⟩ (.int .i64 0) = w3 := ⟨_, rfl⟩
        rw [hw3'] at h3a h3b ⊢
        have HI3 := boxed h3a
        have HE3 := boxed h3b
        clear h3a h3b hw3' y0 y1 y2 g0 g1 g2 m1 m2
        obtain ⟨k1, k2⟩ := HLx.out _ HE3.out
        obtain ⟨⟨y0, y1, y2⟩, g0, g1, g2⟩ := cells3 HI3.out
        go_quiet (fail)
        have HE4 : Box (Below w1.heap.size w1 (w3.drewN nq)) := boxed (HE3.out.trans (bel_drewN _ _ _))
        have h4 : (w3.drewN nq).heap[w1.heap.size]? = _ := HI3.out
        have HI4 := boxed h4
        clear h4 y0 y1 y2 g0 g1 g2 k1 k2
        generalize w3.drewN nq = w4 at *
        obtain ⟨⟨y0, y1, y2⟩, g0, g1, g2⟩ := cells3 HI4.out
        by_cases hl0 : LF = 0
        · have tL : decide ((0 : Int) < (LF : Int)) = false := decide_eq_false (by omega)
          have tL' : decide (0 < LF) = false := decide_eq_false (by omega)
          have HZ : Box ((hd0 LF).length = 0) := boxed (by rw [hl0]; rfl)
          have HD4 := boxed (HD1.out.trans (HE4.out.mono HD1.out.size))
          obtain ⟨⟨d0, d1, d2⟩, e0, e1, e2⟩ := cells3 (HN.out _ HD4.out)
          have HT := put3_all (HN.out _ HD4.out) (.int .i64 (p : Nat)) (.int .i64 (O : Nat)) (.int .i64 0)
          have HB9 := boxed (HB0.out.trans (HD4.out.mono (by omega)))
          have HFB := boxed (HB9.out.trans (grown_below HT.2.1 (Nat.le_refl _) HB9.out.size))
          obtain ⟨⟨j0, j1, j2⟩, -, -⟩ := HT
          have HR := boxed (And.intro j0 (And.intro j1 j2))
          replace hl0 := boxed hl0
          clear j0 j1 j2 HLx HE3 HI3
          go_wp2_with fail
          go_region
          go_wp2
          refine bodyPost_ret (v := .tuple #[.string (s.extract 0 a ++ s.extract b s.size), .agg #[.int .i64 (p : Nat), .int .i64 (O : Nat), .int .i64 0], .int .i64 0]) (by simp [results, Try.results29, go_sem, HR.out.1, HR.out.2.1, HR.out.2.2]) rfl ?_
          exact ⟨by rw [HZ.out]; rfl, HFB.out.drew⟩
        · have tL : decide ((0 : Int) < (LF : Int)) = true := decide_eq_true (by omega)
          have tL' : decide (0 < LF) = true := decide_eq_true (by omega)
          have HZ : Box ((hd0 LF).length = 1) := boxed (by obtain ⟨y, rfl⟩ : ∃ y, LF = y + 1 := ⟨LF - 1, by omega⟩; rfl)
          go_wp2_with fail
          have h5a := (ib_set HI4.out (.int .i64 1)).2.2
          have h5b := below_set HE4.out w1.heap.size 2 (Nat.le_refl _) (.int .i64 1)
          obtain ⟨w5, hw5⟩ : ∃ w5, w4.setCell ⟨w1.heap.size, 2, none⟩ (.int .i64 1) = w5 := ⟨_, rfl⟩
          rw [hw5] at h5a h5b ⊢
          have HD4 := boxed (HD1.out.trans (h5b.mono HD1.out.size))
          obtain ⟨⟨x0, x1, x2⟩, -⟩ := cells3 h5a
          obtain ⟨⟨d0, d1, d2⟩, e0, e1, e2⟩ := cells3 (HN.out _ HD4.out)
          have HT := put3_all (HN.out _ HD4.out) (.int .i64 (p : Nat)) (.int .i64 (O : Nat)) (.int .i64 1)
          have HB9 := boxed (HB0.out.trans (HD4.out.mono (by omega)))
          have HFB := boxed (HB9.out.trans (grown_below HT.2.1 (Nat.le_refl _) HB9.out.size))
          obtain ⟨⟨j0, j1, j2⟩, -, -⟩ := HT
          have HR := boxed (And.intro j0 (And.intro j1 j2))
          clear j0 j1 j2 HLx HE3 HI3 h5a h5b hw5 y0 y1 y2 g0 g1 g2 HI4
          go_region
          go_wp2
          refine bodyPost_ret (v := .tuple #[.string (s.extract 0 a ++ s.extract b s.size), .agg #[.int .i64 (p : Nat), .int .i64 (O : Nat), .int .i64 1], .int .i64 0]) (by simp [results, Try.results29, go_sem, HR.out.1, HR.out.2.1, HR.out.2.2]) rfl ?_
          exact ⟨by rw [HZ.out]; rfl, HFB.out.drew⟩
    · have T2 : decide ((BP : Int) < (a : Int)) = false := decide_eq_false (by omega)
      have T2' : decide (BP < a) = false := decide_eq_false (by omega)
      obtain rfl : O = O0 := by have := hoo.out; rw [if_neg (by omega)] at this; omega
      clear hei'
      go_wp2_with fail
      have h3a := (ib_set HI2.out (.int .i64 0)).2.2
      have h3b := below_set HE2.out w1.heap.size 2 (Nat.le_refl _) (.int .i64 0)
      obtain ⟨w3, hw3'⟩ : ∃ w3, w2.setCell ⟨w1.heap.size, 2, none⟩ (.int .i64 0) = w3 := ⟨_, rfl⟩
      rw [hw3'] at h3a h3b ⊢
      have HI3 := boxed h3a
      have HE3 := boxed h3b
      clear h3a h3b hw3' y0 y1 y2 g0 g1 g2 m1 m2
      obtain ⟨k1, k2⟩ := HLx.out _ HE3.out
      obtain ⟨⟨y0, y1, y2⟩, g0, g1, g2⟩ := cells3 HI3.out
      go_quiet (fail)
      have HE4 : Box (Below w1.heap.size w1 (w3.drewN nq)) := boxed (HE3.out.trans (bel_drewN _ _ _))
      have h4 : (w3.drewN nq).heap[w1.heap.size]? = _ := HI3.out
      have HI4 := boxed h4
      clear h4 y0 y1 y2 g0 g1 g2 k1 k2
      generalize w3.drewN nq = w4 at *
      obtain ⟨⟨y0, y1, y2⟩, g0, g1, g2⟩ := cells3 HI4.out
      by_cases hl0 : LF = 0
      · have tL : decide ((0 : Int) < (LF : Int)) = false := decide_eq_false (by omega)
        have tL' : decide (0 < LF) = false := decide_eq_false (by omega)
        have HZ : Box ((hd0 LF).length = 0) := boxed (by rw [hl0]; rfl)
        have HD4 := boxed (HD1.out.trans (HE4.out.mono HD1.out.size))
        obtain ⟨⟨d0, d1, d2⟩, e0, e1, e2⟩ := cells3 (HN.out _ HD4.out)
        have HT := put3_all (HN.out _ HD4.out) (.int .i64 (p : Nat)) (.int .i64 (O : Nat)) (.int .i64 0)
        have HB9 := boxed (HB0.out.trans (HD4.out.mono (by omega)))
        have HFB := boxed (HB9.out.trans (grown_below HT.2.1 (Nat.le_refl _) HB9.out.size))
        obtain ⟨⟨j0, j1, j2⟩, -, -⟩ := HT
        have HR := boxed (And.intro j0 (And.intro j1 j2))
        replace hl0 := boxed hl0
        clear j0 j1 j2 HLx HE3 HI3
        go_wp2_with fail
        go_region
        go_wp2
        refine bodyPost_ret (v := .tuple #[.string (s.extract 0 a ++ s.extract b s.size), .agg #[.int .i64 (p : Nat), .int .i64 (O : Nat), .int .i64 0], .int .i64 0]) (by simp [results, Try.results29, go_sem, HR.out.1, HR.out.2.1, HR.out.2.2]) rfl ?_
        exact ⟨by rw [HZ.out]; rfl, HFB.out.drew⟩
      · have tL : decide ((0 : Int) < (LF : Int)) = true := decide_eq_true (by omega)
        have tL' : decide (0 < LF) = true := decide_eq_true (by omega)
        have HZ : Box ((hd0 LF).length = 1) := boxed (by obtain ⟨y, rfl⟩ : ∃ y, LF = y + 1 := ⟨LF - 1, by omega⟩; rfl)
        go_wp2_with fail
        have h5a := (ib_set HI4.out (.int .i64 1)).2.2
        have h5b := below_set HE4.out w1.heap.size 2 (Nat.le_refl _) (.int .i64 1)
        obtain ⟨w5, hw5⟩ : ∃ w5, w4.setCell ⟨w1.heap.size, 2, none⟩ (.int .i64 1) = w5 := ⟨_, rfl⟩
        rw [hw5] at h5a h5b ⊢
        have HD4 := boxed (HD1.out.trans (h5b.mono HD1.out.size))
        obtain ⟨⟨x0, x1, x2⟩, -⟩ := cells3 h5a
        obtain ⟨⟨d0, d1, d2⟩, e0, e1, e2⟩ := cells3 (HN.out _ HD4.out)
        have HT := put3_all (HN.out _ HD4.out) (.int .i64 (p : Nat)) (.int .i64 (O : Nat)) (.int .i64 1)
        have HB9 := boxed (HB0.out.trans (HD4.out.mono (by omega)))
        have HFB := boxed (HB9.out.trans (grown_below HT.2.1 (Nat.le_refl _) HB9.out.size))
        obtain ⟨⟨j0, j1, j2⟩, -, -⟩ := HT
        have HR := boxed (And.intro j0 (And.intro j1 j2))
        clear j0 j1 j2 HLx HE3 HI3 h5a h5b hw5 y0 y1 y2 g0 g1 g2 HI4
        go_region
        go_wp2
        refine bodyPost_ret (v := .tuple #[.string (s.extract 0 a ++ s.extract b s.size), .agg #[.int .i64 (p : Nat), .int .i64 (O : Nat), .int .i64 1], .int .i64 0]) (by simp [results, Try.results29, go_sem, HR.out.1, HR.out.2.1, HR.out.2.2]) rfl ?_
        exact ⟨by rw [HZ.out]; rfl, HFB.out.drew⟩
  · have T1 : ((bt s c : Int) == 10) = false := by rw [beq_eq_false_iff_ne]; exact c1
    have hei' := hei.out
    rw [T1] at hei'
    obtain rfl : O = O0 := by have := hoo.out; rw [if_neg (fun h => by have := hei'.2 ⟨h.1.2, h.2⟩; exact absurd this.1 (by simp))] at this; omega
    clear hei' hei c1
    generalize bt s c = VB at *
    go_wp2_with fail
    have h3a := (ib_set HI2.out (.int .i64 0)).2.2
    have h3b := below_set HE2.out w1.heap.size 2 (Nat.le_refl _) (.int .i64 0)
    obtain ⟨w3, hw3'⟩ : ∃ w3, w2.setCell ⟨w1.heap.size, 2, none⟩ (.int .i64 0) = w3 := ⟨_, rfl⟩
    rw [hw3'] at h3a h3b ⊢
    have HI3 := boxed h3a
    have HE3 := boxed h3b
    clear h3a h3b hw3' y0 y1 y2 g0 g1 g2 m1 m2
    obtain ⟨k1, k2⟩ := HLx.out _ HE3.out
    obtain ⟨⟨y0, y1, y2⟩, g0, g1, g2⟩ := cells3 HI3.out
    go_quiet (fail)
    have HE4 : Box (Below w1.heap.size w1 (w3.drewN nq)) := boxed (HE3.out.trans (bel_drewN _ _ _))
    have h4 : (w3.drewN nq).heap[w1.heap.size]? = _ := HI3.out
    have HI4 := boxed h4
    clear h4 y0 y1 y2 g0 g1 g2 k1 k2
    generalize w3.drewN nq = w4 at *
    obtain ⟨⟨y0, y1, y2⟩, g0, g1, g2⟩ := cells3 HI4.out
    by_cases hl0 : LF = 0
    · have tL : decide ((0 : Int) < (LF : Int)) = false := decide_eq_false (by omega)
      have tL' : decide (0 < LF) = false := decide_eq_false (by omega)
      have HZ : Box ((hd0 LF).length = 0) := boxed (by rw [hl0]; rfl)
      have HD4 := boxed (HD1.out.trans (HE4.out.mono HD1.out.size))
      obtain ⟨⟨d0, d1, d2⟩, e0, e1, e2⟩ := cells3 (HN.out _ HD4.out)
      have HT := put3_all (HN.out _ HD4.out) (.int .i64 (p : Nat)) (.int .i64 (O : Nat)) (.int .i64 0)
      have HB9 := boxed (HB0.out.trans (HD4.out.mono (by omega)))
      have HFB := boxed (HB9.out.trans (grown_below HT.2.1 (Nat.le_refl _) HB9.out.size))
      obtain ⟨⟨j0, j1, j2⟩, -, -⟩ := HT
      have HR := boxed (And.intro j0 (And.intro j1 j2))
      replace hl0 := boxed hl0
      clear j0 j1 j2 HLx HE3 HI3
      go_wp2_with fail
      go_region
      go_wp2
      refine bodyPost_ret (v := .tuple #[.string (s.extract 0 a ++ s.extract b s.size), .agg #[.int .i64 (p : Nat), .int .i64 (O : Nat), .int .i64 0], .int .i64 0]) (by simp [results, Try.results29, go_sem, HR.out.1, HR.out.2.1, HR.out.2.2]) rfl ?_
      exact ⟨by rw [HZ.out]; rfl, HFB.out.drew⟩
    · have tL : decide ((0 : Int) < (LF : Int)) = true := decide_eq_true (by omega)
      have tL' : decide (0 < LF) = true := decide_eq_true (by omega)
      have HZ : Box ((hd0 LF).length = 1) := boxed (by obtain ⟨y, rfl⟩ : ∃ y, LF = y + 1 := ⟨LF - 1, by omega⟩; rfl)
      go_wp2_with fail
      have h5a := (ib_set HI4.out (.int .i64 1)).2.2
      have h5b := below_set HE4.out w1.heap.size 2 (Nat.le_refl _) (.int .i64 1)
      obtain ⟨w5, hw5⟩ : ∃ w5, w4.setCell ⟨w1.heap.size, 2, none⟩ (.int .i64 1) = w5 := ⟨_, rfl⟩
      rw [hw5] at h5a h5b ⊢
      have HD4 := boxed (HD1.out.trans (h5b.mono HD1.out.size))
      obtain ⟨⟨x0, x1, x2⟩, -⟩ := cells3 h5a
      obtain ⟨⟨d0, d1, d2⟩, e0, e1, e2⟩ := cells3 (HN.out _ HD4.out)
      have HT := put3_all (HN.out _ HD4.out) (.int .i64 (p : Nat)) (.int .i64 (O : Nat)) (.int .i64 1)
      have HB9 := boxed (HB0.out.trans (HD4.out.mono (by omega)))
      have HFB := boxed (HB9.out.trans (grown_below HT.2.1 (Nat.le_refl _) HB9.out.size))
      obtain ⟨⟨j0, j1, j2⟩, -, -⟩ := HT
      have HR := boxed (And.intro j0 (And.intro j1 j2))
      clear j0 j1 j2 HLx HE3 HI3 h5a h5b hw5 y0 y1 y2 g0 g1 g2 HI4
      go_region
      go_wp2
      refine bodyPost_ret (v := .tuple #[.string (s.extract 0 a ++ s.extract b s.size), .agg #[.int .i64 (p : Nat), .int .i64 (O : Nat), .int .i64 1], .int .i64 0]) (by simp [results, Try.results29, go_sem, HR.out.1, HR.out.2.1, HR.out.2.2]) rfl ?_
      exact ⟨by rw [HZ.out]; rfl, HFB.out.drew⟩
end Go.Proofs.Ytholifolkimkdaa
