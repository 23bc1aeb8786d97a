/-
  For every text and every edit the law ParasKeeps answers true and leaves its arguments as they were: the paragraphs ahead of and behind what the edit touched have the bytes that they had.
-/
import Derived.Test.YtholifolkimkdaaRows
import Derived.WalkKit
import Derived.ProofKit
import Derived.OpenShut
import Derived.SizedLaws
import Derived.ShutString
import Derived.ChangeOld
import Derived.Below
import Derived.Test.YtholifolkimkdaaGx
namespace Go.Proofs.Ytholifolkimkdaa.parasKeeps
open Go.ChangeShapes Go.WideShapes Go.ChangeAt Go.RowKit
open Go.ChangeMaps (open_string shut_string)
set_option linter.unusedVariables false
set_option linter.unusedSimpArgs false

theorem own : ownKnob Try.prog.godebug = none := by kernel_rfl
theorem laidOut : laidOutB Try.prog = true := by kernel_rfl

set_option maxRecDepth 100000 in
set_option maxHeartbeats 12000000 in
theorem walk (w : World) (a0 : ByteArray) (w0 : a0.size ≤ maxLen) (o1 : Opr) (ho1 : OprOk o1) :
    Calls Try.prog 7 #[.string a0, oprV o1] w fun e w' => e = .returned (.bool true) ∧ Below w.heap.size w w' := by
  unfold maxLen at w0
  obtain ⟨ha, hb, hm⟩ := ho1
  unfold maxLen at hm
  have HKB := boxed (keeps_bad a0 o1)
  have HKG := boxed (keeps_good a0 o1)
  have HRS := boxed (stR_size a0 o1)
  have HKZ := boxed (keeps_zero a0 o1)
  have HKF := boxed (stF_le a0 o1)
  have HE1 : Box (∀ W xb ao cap, o1.out = true → TxAt W xb ao cap (ln a0) → Calls Try.prog 21 #[.pointer (some ⟨xb, 0, none⟩), .int .i64 o1.a, .int .i64 o1.b] W fun e w' => EdP W xb ao cap (ln a0) (ln (stR a0 o1)) (stF a0 o1) (stO a0 o1) (stN a0 o1) (stE a0 o1) e w') := boxed (fun W xb ao cap c h => by
    unfold stR stF stO stN stE
    rw [if_pos c, if_pos c, if_pos c, if_pos c, if_pos c, ln_delR]
    exact delete_any h o1.a o1.b)
  have HE2 : Box (∀ W xb ao cap, o1.out = false → o1.m.size ≤ 65536 → TxAt W xb ao cap (ln a0) → Calls Try.prog 22 #[.pointer (some ⟨xb, 0, none⟩), .int .i64 o1.a, .string o1.m] W fun e w' => EdP W xb ao cap (ln a0) (ln (stR a0 o1)) (stF a0 o1) (stO a0 o1) (stN a0 o1) (stE a0 o1) e w') := boxed (fun W xb ao cap c hm h => by
    unfold stR stF stO stN stE
    have c' : ¬ o1.out = true := by rw [c]; simp
    rw [if_neg c', if_neg c', if_neg c', if_neg c', if_neg c', ln_insR]
    exact insert_any h o1.a o1.m hm)
  have HST := boxed (fun W xb ao cap (h : TxAt W xb ao cap (ln a0)) (hm : o1.m.size ≤ 65536) => step_any h o1 hm)
  obtain ⟨w1, hw1⟩ : ∃ w1, w.alloc (.cells #[.bool o1.out, .int .i64 o1.a, .int .i64 o1.b, .string o1.m] 28) = w1 := ⟨_, rfl⟩
  have hb1 : Below w.heap.size w w1 := by rw [← hw1]; exact new_below _ _
  have hz1 : w1.heap.size = w.heap.size + 1 := by rw [← hw1]; exact new_size _ _
  have hO1 : w1.heap[w.heap.size]? = some (.cells #[.bool o1.out, .int .i64 o1.a, .int .i64 o1.b, .string o1.m] 28 (0, 0)) := by rw [← hw1]; exact heap_alloc_new w _
  have HOP : Box (∀ W, Below w1.heap.size w1 W → W.cell? ⟨w.heap.size, 0, none⟩ = some (.bool o1.out) ∧ W.cell? ⟨w.heap.size, 1, none⟩ = some (.int .i64 o1.a) ∧ W.cell? ⟨w.heap.size, 2, none⟩ = some (.int .i64 o1.b) ∧ W.cell? ⟨w.heap.size, 3, none⟩ = some (.string o1.m)) := boxed (fun W hb => cells4 (by rw [hb.block _ (by omega)]; exact hO1))
  have HB0 := boxed hb1
  clear hO1 hb1
  unfold oprV
  unfold oprV at HST
  go_enter Try.func7, Try.ntmps7
  go_wp2_with fail
  refine (awake_any _).mono ?_
  rintro e w2 ⟨rfl, hb2⟩
  obtain ⟨p0, p1, p2, p3⟩ := HOP.out _ hb2
  have HD2 := boxed hb2
  clear hb2
  by_cases hbig : 3000 < a0.size ∨ 3000 < o1.m.size
  · have HF := boxed (HB0.out.trans (HD2.out.mono (by omega)))
    by_cases h1 : 3000 < a0.size
    · have t1 : decide ((3000 : Int) < (a0.size : Int)) = true := decide_eq_true (by omega)
      have t1' : decide (3000 < a0.size) = true := decide_eq_true h1
      clear hbig
      by_cases h2 : 3000 < o1.m.size
      · have t2 : decide ((3000 : Int) < (o1.m.size : Int)) = true := decide_eq_true (by omega)
        go_wp2
        go_ret
        exact ⟨rfl, HF.out⟩
      · have t2 : decide ((3000 : Int) < (o1.m.size : Int)) = false := decide_eq_false (by omega)
        go_wp2
        go_ret
        exact ⟨rfl, HF.out⟩
    · have h2 : 3000 < o1.m.size := hbig.resolve_left h1
      have t1 : decide ((3000 : Int) < (a0.size : Int)) = false := decide_eq_false (by omega)
      have t1' : decide (3000 < a0.size) = false := decide_eq_false (by omega)
      have t2 : decide ((3000 : Int) < (o1.m.size : Int)) = true := decide_eq_true (by omega)
      have t2' : decide (3000 < o1.m.size) = true := decide_eq_true (by omega)
      clear hbig
      go_wp2
      go_ret
      exact ⟨rfl, HF.out⟩
  · obtain ⟨h1, h2⟩ : ¬ 3000 < a0.size ∧ ¬ 3000 < o1.m.size := by omega
    have t1 : decide ((3000 : Int) < (a0.size : Int)) = false := decide_eq_false (by omega)
    have t1' : decide (3000 < a0.size) = false := decide_eq_false (by omega)
    have t2 : decide ((3000 : Int) < (o1.m.size : Int)) = false := decide_eq_false (by omega)
    have t2' : decide (3000 < o1.m.size) = false := decide_eq_false (by omega)
    clear hbig
    go_wp2_with fail
    refine (new_any a0 _ (by omega)).mono ?_
    rintro e w3 ⟨xb, ao, cap, rfl, hxb, hx, -, hb3⟩
    have HD3 := boxed (below_step HD2.out (Nat.le_refl _) hb3)
    have hxb' : w1.heap.size ≤ xb := Nat.le_trans HD2.out.size hxb
    obtain ⟨q0, q1, q2, q3⟩ := HOP.out _ HD3.out
    have hst := HST.out _ _ _ _ hx (by omega)
    clear hb3 hx hxb p0 p1 p2 p3 t1 t1' t2 t2' HST HD2
    go_wp2_with fail
    refine hst.mono ?_
    rintro e w4 ⟨rfl, hg4, a4, c4, hx4, -⟩
    have HD4 := boxed (HD3.out.trans (grown_below hg4 hxb' HD3.out.size))
    have hrs := HRS.out (by omega)
    obtain ⟨r, hr⟩ : ∃ r, stR a0 o1 = r := ⟨_, rfl⟩
    obtain ⟨F, hF⟩ : ∃ F, stF a0 o1 = F := ⟨_, rfl⟩
    obtain ⟨O, hO⟩ : ∃ O, stO a0 o1 = O := ⟨_, rfl⟩
    obtain ⟨N, hN⟩ : ∃ N, stN a0 o1 = N := ⟨_, rfl⟩
    obtain ⟨C, hC⟩ : ∃ C, stE a0 o1 = C := ⟨_, rfl⟩
    rw [hr, hF, hO, hN] at HE1 HE2 HKG
    rw [hC] at HE1 HE2 HKG HKB
    rw [hr, hO, hN] at HKB
    rw [hF, hO, hN, hC] at HKZ
    rw [hF] at HKF
    rw [hr] at hrs
    rw [hr, hF, hO, hN]
    clear hst hg4 hx4 hr hF hO hN hC q0 q1 q2 q3 HRS
    obtain ⟨wa, hwa⟩ : ∃ wa, w4.alloc (.cells #[.int .i64 (F : Nat), .int .i64 (O : Nat), .int .i64 (N : Nat)] 30) = wa := ⟨_, rfl⟩
    have hba : Below w4.heap.size w4 wa := by rw [← hwa]; exact new_below _ _
    have HDa := boxed (below_step HD4.out (Nat.le_refl _) hba)
    clear hba
    go_wp2_with fail
    refine (new_any a0 _ (by omega)).mono ?_
    rintro e w5 ⟨yb, ay, cy, rfl, hyb, hy, -, hb5⟩
    have HD5 := boxed (below_step HDa.out (Nat.le_refl _) hb5)
    have hyb' : w1.heap.size ≤ yb := Nat.le_trans HDa.out.size hyb
    have hyl := hy.lt
    obtain ⟨wc, hwc⟩ : ∃ wc, w5.alloc (.cells #[.int .i64 0, .int .i64 0, .int .i64 0] 30) = wc := ⟨_, rfl⟩
    have hbc : Below w5.heap.size w5 wc := by rw [← hwc]; exact new_below _ _
    have hzc : wc.heap.size = w5.heap.size + 1 := by rw [← hwc]; exact new_size _ _
    have hIc : wc.heap[w5.heap.size]? = some (.cells #[.int .i64 0, .int .i64 0, .int .i64 0] 30 (0, 0)) := by rw [← hwc]; exact heap_alloc_new w5 _
    have HDc := boxed (below_step HD5.out (Nat.le_refl _) hbc)
    have hs5 := HD5.out.size
    obtain ⟨p0, p1, p2, p3⟩ := HOP.out _ HDc.out
    have HI1 := boxed (fun c => HE1.out wc yb ay cy c (hy.below hbc))
    have HI2 := boxed (fun c => HE2.out wc yb ay cy c (by omega) (hy.below hbc))
    have HIc := boxed hIc
    clear hb5 hy hyb hbc HE1 HE2 HOP hIc HDa HD4 HD3
    cases hout : o1.out with
    | true =>
      rw [hout] at p0
      have hed := HI1.out hout
      clear HI1 HI2
      go_wp2_with fail
      refine hed.mono ?_
      rintro e w6 ⟨rfl, hg6, a6, c6, hx6, -⟩
      have HD6 := boxed (HDc.out.trans (grown_below hg6 hyb' HDc.out.size))
      have HI6 : Box (w6.heap[w5.heap.size]? = some (.cells #[.int .i64 0, .int .i64 0, .int .i64 0] 30 (0, 0))) := boxed ((hg6.block w5.heap.size (by omega) (by intro e; injection e with e; omega)).trans HIc.out)
      obtain ⟨⟨y0, y1, y2⟩, g0, g1, g2⟩ := cells3 HI6.out
      have HPT := put3_all HI6.out (.int .i64 (F : Nat)) (.int .i64 (O : Nat)) (.int .i64 (N : Nat))
      have HD7 := boxed (HD6.out.trans (grown_below HPT.2.1 hs5 HD6.out.size))
      have HI7 := boxed HPT.2.2
      have hFb := HKF.out
      clear hed hg6 hx6 HIc p0 p1 p2 p3 HPT HKF
      by_cases hC0 : C = 0
      · subst hC0
        by_cases hON : O + N = 0
        · obtain rfl : r = a0 := HKB.out (.inr hON)
          obtain rfl : O = 0 := by omega
          obtain rfl : N = 0 := by omega
          clear HKB HKG HKZ hON
          go_wp2
          go_ret
          exact ⟨by simp, HB0.out.trans (HD7.out.mono (by omega))⟩
        · obtain ⟨⟨k1, k2, k3⟩, k4, k5, k6⟩ := HKG.out rfl hON
          have hn1 := sp_len (ln a0)
          have hn2 := sp_len (ln r)
          have hb1 := Bg_le (sp (ln a0)) F
          have hb2 := Bg_le (sp (ln a0)) (F + O)
          have hb3 := Bg_le (sp (ln r)) (F + N)
          have hb4 := Bg_le (sp (ln r)) F
          rw [sp_sum] at hb1 hb2 hb3 hb4
          rw [ln_len] at hn1 hn2 hb1 hb2 hb3 hb4
          have hS1 := fun W => starts_any a0 W (by omega)
          have hS2 := fun W => starts_any r W (by omega)
          have hl1 := sts_len (ln a0)
          have hl2 := sts_len (ln r)
          have x1 := sts_get (ln a0) F (by omega)
          have x2 := sts_get (ln a0) (F + O) k1
          have x3 := sts_get (ln r) F (by omega)
          have x4 := sts_get (ln r) (F + N) k2
          rw [k4] at x3 hb4
          rw [hl1] at hS1
          rw [hl2] at hS2
          generalize hFO : F + O = FO at *
          generalize hFN : F + N = FN at *
          generalize sts (ln a0) = S1 at *
          generalize sts (ln r) = S2 at *
          generalize (sp (ln a0)).length = NS at *
          generalize (sp (ln r)).length = NR at *
          generalize Bg (sp (ln a0)) F = A at *
          generalize Bg (sp (ln a0)) FO = E1 at *
          generalize Bg (sp (ln r)) FN = E2 at *
          have eFO : (F : Int) + (O : Int) = (FO : Int) := by omega
          have eFN : (F : Int) + (N : Int) = (FN : Int) := by omega
          have tON : ((O : Int) + (N : Int) == 0) = false := by rw [beq_eq_false_iff_ne]; omega
          have tF0 : decide ((F : Int) < 0) = false := decide_eq_false (by omega)
          have tF1 : decide ((NS : Int) + 1 ≤ (FO : Int)) = false := decide_eq_false (by omega)
          have tF2 : decide ((NR : Int) + 1 ≤ (FN : Int)) = false := decide_eq_false (by omega)
          have eND : (NS : Int) + 1 - (O : Int) = (NR : Int) + 1 - (N : Int) := by omega
          obtain ⟨D, hD⟩ : ∃ D : Int, (NR : Int) + 1 - (N : Int) = D := ⟨_, rfl⟩
          rw [hD] at eND
          replace hFO := boxed hFO
          replace hFN := boxed hFN
          have K5 := boxed k5
          have K6 := boxed k6
          clear HKG HKB HKZ k4 k5 k6 hON
          obtain ⟨w7, hw7⟩ : ∃ w7, ((w6.setCell ⟨w5.heap.size, 0, none⟩ (.int .i64 (F : Nat))).setCell ⟨w5.heap.size, 1, none⟩ (.int .i64 (O : Nat))).setCell ⟨w5.heap.size, 2, none⟩ (.int .i64 (N : Nat)) = w7 := ⟨_, rfl⟩
          rw [hw7] at HD7 HI7
          have hlt7 : w5.heap.size < w7.heap.size := (Array.getElem?_eq_some_iff.1 HI7.out).1
          obtain ⟨⟨z0, z1, z2⟩, -⟩ := cells3 HI7.out
          go_wp2_with fail
          refine (hS1 _).mono ?_
          rintro e w8 ⟨v8, rfl, ho8, hb8⟩
          obtain ⟨g8, c8, rfl, -⟩ := own_form ho8 (by omega)
          have HE8 := boxed hb8
          clear hb8 hS1
          go_wp2_with fail
          refine (hS2 _).mono ?_
          rintro e w9 ⟨v9, rfl, ho9, hb9⟩
          obtain ⟨g9, c9, rfl, -⟩ := own_form ho9 (by omega)
          have HE9 := boxed (below_step HE8.out (Nat.le_refl _) hb9)
          have HD9 := boxed (HD7.out.trans (HE9.out.mono HD7.out.size))
          have n1 := (own_nat (by rw [hl1]; exact owns_below ho8 hb9)).get F (by omega)
          have n2 := (own_nat (by rw [hl1]; exact owns_below ho8 hb9)).get FO (by omega)
          have n3 := (own_nat (by rw [hl2]; exact ho9)).get F (by omega)
          have n4 := (own_nat (by rw [hl2]; exact ho9)).get FN (by omega)
          rw [x1] at n1
          rw [x2] at n2
          rw [x3] at n3
          rw [x4] at n4
          have h9 : w9.heap[w5.heap.size]? = _ := (HE9.out.block _ hlt7).trans HI7.out
          obtain ⟨⟨j0, j1, j2⟩, -⟩ := cells3 h9
          clear ho8 ho9 hb9 hS2 x1 x2 x3 x4 h9 z0 z1 z2 y0 y1 y2 g0 g1 g2
          have v1 := str_hi a0 A (by omega)
          have v2 := str_hi r A (by omega)
          have v3 := str_lo a0 E1 (by omega)
          have v4 := str_lo r E2 (by omega)
          rw [← K5.out] at v2
          rw [← K6.out] at v4
          generalize a0.extract 0 A = X1 at *
          generalize a0.extract E1 a0.size = X2 at *
          have wFO : IntKind.i64.wrap ((F : Int) + (O : Int)) = (FO : Nat) := by rw [IntKind.wrap_i64]; omega
          have wFN : IntKind.i64.wrap ((F : Int) + (N : Int)) = (FN : Nat) := by rw [IntKind.wrap_i64]; omega
          go_wp2_with fail
          clear eFO eFN eND tF0 tF1 tF2 tON
          have b1 : F < NS + 1 := by have := hFO.out; omega
          have b2 : FO < NS + 1 := by omega
          have b3 : F < NR + 1 := by have := hFN.out; omega
          have b4 : FN < NR + 1 := by omega
          have b1' : (F : Int) < (NS : Int) + 1 := by omega
          have b2' : (FO : Int) < (NS : Int) + 1 := by omega
          have b3' : (F : Int) < (NR : Int) + 1 := by omega
          have b4' : (FN : Int) < (NR : Int) + 1 := by omega
          go_quiet (fail)
          have HDq : Box (Below w1.heap.size w1 (w9.drewN nq)) := boxed (HD9.out.trans (bel_drewN _ _ _))
          clear n1 n2 n3 n4 j0 j1 j2 v1 v2 v3 v4 wFO wFN
          generalize w9.drewN nq = w10 at *
          go_wp2
          go_ret
          exact ⟨by simp, HB0.out.trans (HDq.out.mono (by omega))⟩
      · obtain rfl : r = a0 := HKB.out (.inl hC0)
        obtain ⟨rfl, rfl, rfl⟩ := HKZ.out hC0
        have tC : ((C : Int) == 0) = false := by rw [beq_eq_false_iff_ne]; omega
        have tC' : ((C : Int) != 0) = true := by simp; omega
        clear HKB HKG HKZ hC0
        go_wp2
        go_ret
        exact ⟨by simp, HB0.out.trans (HD7.out.mono (by omega))⟩
    | false =>
      rw [hout] at p0
      have hed := HI2.out hout
      clear HI1 HI2
      go_wp2_with fail
      refine hed.mono ?_
      rintro e w6 ⟨rfl, hg6, a6, c6, hx6, -⟩
      have HD6 := boxed (HDc.out.trans (grown_below hg6 hyb' HDc.out.size))
      have HI6 : Box (w6.heap[w5.heap.size]? = some (.cells #[.int .i64 0, .int .i64 0, .int .i64 0] 30 (0, 0))) := boxed ((hg6.block w5.heap.size (by omega) (by intro e; injection e with e; omega)).trans HIc.out)
      obtain ⟨⟨y0, y1, y2⟩, g0, g1, g2⟩ := cells3 HI6.out
      have HPT := put3_all HI6.out (.int .i64 (F : Nat)) (.int .i64 (O : Nat)) (.int .i64 (N : Nat))
      have HD7 := boxed (HD6.out.trans (grown_below HPT.2.1 hs5 HD6.out.size))
      have HI7 := boxed HPT.2.2
      have hFb := HKF.out
      clear hed hg6 hx6 HIc p0 p1 p2 p3 HPT HKF
      by_cases hC0 : C = 0
      · subst hC0
        by_cases hON : O + N = 0
        · obtain rfl : r = a0 := HKB.out (.inr hON)
          obtain rfl : O = 0 := by omega
          obtain rfl : N = 0 := by omega
          clear HKB HKG HKZ hON
          go_wp2
          go_ret
          exact ⟨by simp, HB0.out.trans (HD7.out.mono (by omega))⟩
        · obtain ⟨⟨k1, k2, k3⟩, k4, k5, k6⟩ := HKG.out rfl hON
          have hn1 := sp_len (ln a0)
          have hn2 := sp_len (ln r)
          have hb1 := Bg_le (sp (ln a0)) F
          have hb2 := Bg_le (sp (ln a0)) (F + O)
          have hb3 := Bg_le (sp (ln r)) (F + N)
          have hb4 := Bg_le (sp (ln r)) F
          rw [sp_sum] at hb1 hb2 hb3 hb4
          rw [ln_len] at hn1 hn2 hb1 hb2 hb3 hb4
          have hS1 := fun W => starts_any a0 W (by omega)
          have hS2 := fun W => starts_any r W (by omega)
          have hl1 := sts_len (ln a0)
          have hl2 := sts_len (ln r)
          have x1 := sts_get (ln a0) F (by omega)
          have x2 := sts_get (ln a0) (F + O) k1
          have x3 := sts_get (ln r) F (by omega)
          have x4 := sts_get (ln r) (F + N) k2
          rw [k4] at x3 hb4
          rw [hl1] at hS1
          rw [hl2] at hS2
          generalize hFO : F + O = FO at *
          generalize hFN : F + N = FN at *
          generalize sts (ln a0) = S1 at *
          generalize sts (ln r) = S2 at *
          generalize (sp (ln a0)).length = NS at *
          generalize (sp (ln r)).length = NR at *
          generalize Bg (sp (ln a0)) F = A at *
          generalize Bg (sp (ln a0)) FO = E1 at *
          generalize Bg (sp (ln r)) FN = E2 at *
          have eFO : (F : Int) + (O : Int) = (FO : Int) := by omega
          have eFN : (F : Int) + (N : Int) = (FN : Int) := by omega
          have tON : ((O : Int) + (N : Int) == 0) = false := by rw [beq_eq_false_iff_ne]; omega
          have tF0 : decide ((F : Int) < 0) = false := decide_eq_false (by omega)
          have tF1 : decide ((NS : Int) + 1 ≤ (FO : Int)) = false := decide_eq_false (by omega)
          have tF2 : decide ((NR : Int) + 1 ≤ (FN : Int)) = false := decide_eq_false (by omega)
          have eND : (NS : Int) + 1 - (O : Int) = (NR : Int) + 1 - (N : Int) := by omega
          obtain ⟨D, hD⟩ : ∃ D : Int, (NR : Int) + 1 - (N : Int) = D := ⟨_, rfl⟩
          rw [hD] at eND
          replace hFO := boxed hFO
          replace hFN := boxed hFN
          have K5 := boxed k5
          have K6 := boxed k6
          clear HKG HKB HKZ k4 k5 k6 hON
          obtain ⟨w7, hw7⟩ : ∃ w7, ((w6.setCell ⟨w5.heap.size, 0, none⟩ (.int .i64 (F : Nat))).setCell ⟨w5.heap.size, 1, none⟩ (.int .i64 (O : Nat))).setCell ⟨w5.heap.size, 2, none⟩ (.int .i64 (N : Nat)) = w7 := ⟨_, rfl⟩
          rw [hw7] at HD7 HI7
          have hlt7 : w5.heap.size < w7.heap.size := (Array.getElem?_eq_some_iff.1 HI7.out).1
          obtain ⟨⟨z0, z1, z2⟩, -⟩ := cells3 HI7.out
          go_wp2_with fail
          refine (hS1 _).mono ?_
          rintro e w8 ⟨v8, rfl, ho8, hb8⟩
          obtain ⟨g8, c8, rfl, -⟩ := own_form ho8 (by omega)
          have HE8 := boxed hb8
          clear hb8 hS1
          go_wp2_with fail
          refine (hS2 _).mono ?_
          rintro e w9 ⟨v9, rfl, ho9, hb9⟩
          obtain ⟨g9, c9, rfl, -⟩ := own_form ho9 (by omega)
          have HE9 := boxed (below_step HE8.out (Nat.le_refl _) hb9)
          have HD9 := boxed (HD7.out.trans (HE9.out.mono HD7.out.size))
          have n1 := (own_nat (by rw [hl1]; exact owns_below ho8 hb9)).get F (by omega)
          have n2 := (own_nat (by rw [hl1]; exact owns_below ho8 hb9)).get FO (by omega)
          have n3 := (own_nat (by rw [hl2]; exact ho9)).get F (by omega)
          have n4 := (own_nat (by rw [hl2]; exact ho9)).get FN (by omega)
          rw [x1] at n1
          rw [x2] at n2
          rw [x3] at n3
          rw [x4] at n4
          have h9 : w9.heap[w5.heap.size]? = _ := (HE9.out.block _ hlt7).trans HI7.out
          obtain ⟨⟨j0, j1, j2⟩, -⟩ := cells3 h9
          clear ho8 ho9 hb9 hS2 x1 x2 x3 x4 h9 z0 z1 z2 y0 y1 y2 g0 g1 g2
          have v1 := str_hi a0 A (by omega)
          have v2 := str_hi r A (by omega)
          have v3 := str_lo a0 E1 (by omega)
          have v4 := str_lo r E2 (by omega)
          rw [← K5.out] at v2
          rw [← K6.out] at v4
          generalize a0.extract 0 A = X1 at *
          generalize a0.extract E1 a0.size = X2 at *
          have wFO : IntKind.i64.wrap ((F : Int) + (O : Int)) = (FO : Nat) := by rw [IntKind.wrap_i64]; omega
          have wFN : IntKind.i64.wrap ((F : Int) + (N : Int)) = (FN : Nat) := by rw [IntKind.wrap_i64]; omega
          go_wp2_with fail
          clear eFO eFN eND tF0 tF1 tF2 tON
          have b1 : F < NS + 1 := by have := hFO.out; omega
          have b2 : FO < NS + 1 := by omega
          have b3 : F < NR + 1 := by have := hFN.out; omega
          have b4 : FN < NR + 1 := by omega
          have b1' : (F : Int) < (NS : Int) + 1 := by omega
          have b2' : (FO : Int) < (NS : Int) + 1 := by omega
          have b3' : (F : Int) < (NR : Int) + 1 := by omega
          have b4' : (FN : Int) < (NR : Int) + 1 := by omega
          go_quiet (fail)
          have HDq : Box (Below w1.heap.size w1 (w9.drewN nq)) := boxed (HD9.out.trans (bel_drewN _ _ _))
          clear n1 n2 n3 n4 j0 j1 j2 v1 v2 v3 v4 wFO wFN
          generalize w9.drewN nq = w10 at *
          go_wp2
          go_ret
          exact ⟨by simp, HB0.out.trans (HDq.out.mono (by omega))⟩
      · obtain rfl : r = a0 := HKB.out (.inl hC0)
        obtain ⟨rfl, rfl, rfl⟩ := HKZ.out hC0
        have tC : ((C : Int) == 0) = false := by rw [beq_eq_false_iff_ne]; omega
        have tC' : ((C : Int) != 0) = true := by simp; omega
        clear HKB HKG HKZ hC0
        go_wp2
        go_ret
        exact ⟨by simp, HB0.out.trans (HD7.out.mono (by omega))⟩

set_option maxRecDepth 100000 in
theorem lifted (os : Os) (started : os.Started) (H : Type) (enc : TypeId × Value → H) :
    ReturnsInHanded {} Try.checked os 7 .any (Rows.parasKeepsSpec.pre6 enc Try.prog Try.f7 Rows.parasKeepsRow.domain false) (Rows.parasKeepsSpec.post enc Try.prog Try.f7 false true false false) := by
  refine returnsInHanded_of_change_sized (C := Try.checked) own started (by kernel_rfl) Try.func7
    (ChangeSpec.witness6 (enc := enc) (C := Try.checked) false ⟨#[], #[.string ByteArray.empty, .agg #[.bool false, .int .i64 0, .int .i64 0, .string ByteArray.empty]], []⟩ 8 (by kernel_rfl) (by kernel_rfl) (by kernel_rfl) (by kernel_rfl)) ?_
  intro W base args ds gs before hval0 hW hcnd hsz0 _
  have hval : ∀ (j : Nat) t v, Try.f7.params[j]? = some t → args[j]? = some v → Value.okWide Try.prog W .any base t v := hval0
  have hsz : (DataW.weightsEach Try.prog (Try.f7.params.toList ++ Rows.parasKeepsSpec.plain.varTypes Try.prog) (ds ++ gs)).all (· ≤ reachBytes) = true := hsz0
  have hW' := hW
  obtain ⟨p, q, hA0, hV, rfl, hfz, hnd⟩ := hW
  have hA : DataW.TrodAll enc Try.prog W 0 (fun _ => true) true Try.f7.params.toList args.toList ds p := hA0
  rw [Try.params7] at hA hval hsz
  obtain ⟨v0, vs0, d0, ds0, p0, q0, hargs, rfl, rfl, h0, r0⟩ := trodAll_cons hA
  obtain ⟨v1, vs1, d1, ds1, p1, q1, rfl, rfl, rfl, h1, r1⟩ := trodAll_cons r0
  obtain ⟨rfl, rfl, rfl⟩ := trodAll_nil r1
  obtain rfl : args = #[v0, v1] := by cases args; simp_all
  obtain ⟨rfl, rfl⟩ := trodVars_none hV
  obtain ⟨a0, rfl, rfl, rfl, w0⟩ := open_string Try.underlying9 (hval 0 9 v0 rfl rfl) h0
  have k1 := h1
  have lt1 : ∀ x ∈ p1, x.block < W.heap.size := by obtain ⟨m, hm⟩ := k1; exact DataW.trod_lt m _ _ _ hm
  obtain ⟨o1, rfl, ho1⟩ : ∃ o : Opr, v1 = oprV o ∧ OprOk o := by
    obtain ⟨fuel, hf⟩ := k1
    exact op_value hf
  clear hA0 hval0
  refine (walk W a0 w0 o1 ho1).mono fun e W' ⟨he, hg⟩ => ?_
  subst he
  exact ⟨_, rfl, _, _, _, [], _, [], hW', trodAll_mk1 (shut_bool Try.underlying4 _), (trodAll_cons_mk (shut_string Try.underlying9 w0) (trodAll_cons_mk (Below.trod laidOut (by kernel_rfl) (of_decide_eq_true (by kernel_rfl)) k1 hg lt1) trodAll_mk0)), rfl, hg.frame _, fun h => by cases h⟩

theorem proved : Rows.ParasKeepsSaid :=
  OpenClaim.holds_of_wide 7 Try.f7 rfl rfl rfl rfl rfl rfl rfl ⟨rfl, rfl, rfl, rfl, rfl⟩ rfl rfl rfl rfl rfl (by kernel_rfl) Try.func7 (by kernel_rfl)
    (of_decide_eq_true (by kernel_rfl)) (by unfold Func.isWrapper; first | (rw [if_pos (by decide +kernel)]; kernel_rfl) | (rw [if_neg (by decide +kernel)]; exact ⟨rfl, rfl⟩))
    (fun os started H enc _ => lifted os started H enc)
#print axioms proved
end Go.Proofs.Ytholifolkimkdaa.parasKeeps
