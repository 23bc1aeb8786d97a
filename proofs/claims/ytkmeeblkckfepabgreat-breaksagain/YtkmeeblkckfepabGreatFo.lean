/-
  What the search's method cheapest answers.
-/
import Derived.Test.YtkmeeblkckfepabGreatFn
namespace Go.Proofs.YtkmeeblkckfepabGreat
open Go.RowKit
set_option linter.unusedSimpArgs false
set_option linter.unusedVariables false

section
variable (I : Nat → Itm) (n : Nat) (s : Stg) (R : Nat → Nat → Int × Nat) (C : Nat → Ln) (a : Int) (fl : Bool)
/-- What line k of a choice costs with all behind it. -/
def cq (k : Nat) : Int := tt (cst s (C k).f (itb I n (C k).e) a fl (decide ((C k).e + 1 = (nbk I n : Int)))) (R (C k).e.toNat (C k).f.cls.toNat).1
/-- The cheapest of the first lines of a choice; of several the one that ends first. -/
def chp : Nat → Int × Int
  | 0 => (Awf, 0)
  | k + 1 => if (C k).c = Awf then chp k else if cq I n s R C a fl k < (chp k).1 ∨ (cq I n s R C a fl k = (chp k).1 ∧ (C k).e < (chp k).2) then (cq I n s R C a fl k, (C k).e) else chp k
end
/-- Four blocks laid. -/
theorem laid4 (w : World) (A B C D : Obj) : ((((w.alloc A).alloc B).alloc C).alloc D).heap[w.heap.size]? = some A ∧ ((((w.alloc A).alloc B).alloc C).alloc D).heap[w.heap.size + 1]? = some B ∧ ((((w.alloc A).alloc B).alloc C).alloc D).heap[w.heap.size + 1 + 1]? = some C ∧ ((((w.alloc A).alloc B).alloc C).alloc D).heap[w.heap.size + 1 + 1 + 1]? = some D ∧ Below w.heap.size w ((((w.alloc A).alloc B).alloc C).alloc D) := by
  obtain ⟨a1, a2, a3, a4⟩ := laid2 w A B
  obtain ⟨b1, b2, b3, b4⟩ := laid2 ((w.alloc A).alloc B) C D
  rw [a4] at b1 b2 b3
  refine ⟨?_, ?_, b1, b2, a3.trans (b3.mono (by omega))⟩
  · rw [b3.block _ (by omega)]; exact a1
  · rw [b3.block _ (by omega)]; exact a2
theorem idx_choice (C : Nat → Ln) (k : Nat) (hk : k < 4) (W : World) : (Instr.index 76 (.agg (chA C)) (.int .i64 (k : Int))).run Tryz.prog W = .ok (.agg (C k).cells.toArray) W := by
  rcases (show k = 0 ∨ k = 1 ∨ k = 2 ∨ k = 3 by omega) with rfl | rfl | rfl | rfl <;> kernel_rfl
section
variable {w : World} {B sb pb rb rc n : Nat} {I : Nat → Itm} {width : Int} {s : Stg} {bound near : Int} {v1 v2 : Value} {L1 L2 : List (Nat × Int)} {C : Nat → Ln} {R : Nat → Nat → Int × Nat}
set_option maxRecDepth 100000 in
set_option maxHeartbeats 8000000 in
theorem cheapest_any (h : ParaAt (fun b => b < B) w pb n I) (hn : n ≤ 262144) (hss : SS B sb pb rb rc (nbk I n) width s w bound near v1 v2 L1 L2) (hr : RsAt w rb (nbk I n) R)
    (hC : ∀ k, k < 4 → (C k).c ≠ Awf → (0 ≤ (C k).e ∧ (C k).e < (nbk I n : Int)) ∧ 0 ≤ (C k).f.cls ∧ (C k).f.cls < 4) (a : Int) (ha : -1000 ≤ a ∧ a ≤ 1000) (fl : Bool) :
    Calls Tryz.prog 33 #[.pointer (some ⟨sb, 0, none⟩), .agg (chA C), .agg #[.int .i64 a, .bool fl]] w fun e' w' => e' = .returned (.agg #[.int .i64 (chp I n s R C a fl 4).1, .int .i64 (chp I n s R C a fl 4).2]) ∧ Below w.heap.size w w' := by
  have hm : nbk I n ≤ 262144 := by unfold nbk; have := lgs_len I n n; omega
  have hsz := choice_size C
  obtain ⟨A, hA⟩ : ∃ A, chA C = A := ⟨_, rfl⟩
  rw [hA] at hsz ⊢
  have hl4 := laid4 w (.cells A 76) (.cells #[.int .i64 a, .bool fl] 83) (.cells #[.int .i64 0, .int .i64 0] 79) (.cells #[.int .i64 1125899906842624, .int .i64 0] 79)
  have HL := boxed hl4
  have HIX := boxed (fun k hk W => idx_choice C k hk W)
  rw [hA] at HIX
  have HP : Box (∀ W, Below w.heap.size w W → ParaAt (fun b => b < B) W pb n I ∧ SS B sb pb rb rc (nbk I n) width s W bound near v1 v2 L1 L2 ∧ RsAt W rb (nbk I n) R) := boxed (fun W hb => ⟨h.keep (kp_lt (hb.mono (by have := hss.hs; omega))), hss.below hb, hr.keep (hb.block rb hss.hs.2.2.2.2)⟩)
  clear hl4 h hss hr
  go_enter Tryz.func33, Tryz.ntmps33
  go_wp2_with (first | (refine wpList_load_row rfl 76 _ rfl w.heap.size rfl 76 A (0, 0) _ HL.out.1 Tryz.underlying76 rfl hsz ?_))
  obtain ⟨w4, hw4⟩ : ∃ w4, (((w.alloc (.cells A 76)).alloc (.cells #[.int .i64 a, .bool fl] 83)).alloc (.cells #[.int .i64 0, .int .i64 0] 79)).alloc (.cells #[.int .i64 1125899906842624, .int .i64 0] 79) = w4 := ⟨_, rfl⟩
  have HL2 := boxed HL.out.2
  rw [hw4] at HL2
  rw [hw4]
  clear HL hw4 hA
  go_loopw [13] (fun kv wr => ∃ k : Nat, k ≤ 4 ∧ kv = .int .i64 (k : Int) ∧ Box (wr.heap[w.heap.size + 1]? = some (.cells #[.int .i64 a, .bool fl] 83 (0, 0)) ∧ wr.heap[w.heap.size + 1 + 1]? = some (.cells #[.int .i64 0, .int .i64 0] 79 (0, 0)) ∧ wr.heap[w.heap.size + 1 + 1 + 1]? = some (.cells #[.int .i64 (chp I n s R C a fl k).1, .int .i64 (chp I n s R C a fl k).2] 79 (0, 0)) ∧ Below w.heap.size w wr)) (fun kv _ => 4 - (intOf kv).toNat)
  case atStart => exact ⟨0, by omega, rfl, HL2⟩
  case round =>
    obtain ⟨k, hk, rfl, HR⟩ := hrel
    obtain ⟨e1, e2, e3, hb⟩ := HR.out
    have z1 := heap_lt e1
    have z2 := heap_lt e2
    have z3 := heap_lt e3
    by_cases hlt : k < 4
    · have t1 : decide ((k : Int) < 4) = true := decide_eq_true (by omega)
      have hix := HIX.out k hlt
      unfold Ln.cells at hix
      have HCk := boxed (hC k hlt)
      obtain ⟨x, hx⟩ : ∃ x, C k = x := ⟨_, rfl⟩
      rw [hx] at hix HCk
      obtain ⟨b0, b1, hbest⟩ : ∃ b0 b1, chp I n s R C a fl k = (b0, b1) := ⟨_, _, rfl⟩
      have HB := boxed hbest
      have HX := boxed hx
      rw [hbest] at e3
      simp only at e3
      obtain ⟨⟨a0, a1⟩, -⟩ := cells2 e1
      obtain ⟨⟨g0, g1⟩, y0, y1⟩ := cells2 e3
      have E1 := boxed e1
      have E2 := boxed e2
      have E3 := boxed e3
      have HBr := boxed hb
      clear e1 e2 e3 hb hbest hx HR
      obtain ⟨x1, ⟨x2, x3, x4, x5, x6⟩, x7⟩ := x
      simp only at hix HCk
      have n1 : w.heap.size + 1 ≠ wr.heap.size := by omega
      have n2 : w.heap.size + 1 + 1 ≠ wr.heap.size := by omega
      have n3 : w.heap.size + 1 + 1 + 1 ≠ wr.heap.size := by omega
      have HS0 : Box (chp I n s R C a fl (k + 1) = if (C k).c = Awf then chp I n s R C a fl k else if cq I n s R C a fl k < (chp I n s R C a fl k).1 ∨ (cq I n s R C a fl k = (chp I n s R C a fl k).1 ∧ (C k).e < (chp I n s R C a fl k).2) then (cq I n s R C a fl k, (C k).e) else chp I n s R C a fl k) := boxed rfl
      by_cases hA : x7 = 1125899906842624
      · have d1 : (x7 == 1125899906842624) = true := by simp [hA]
        have HW : Box (∀ o, (wr.alloc o).heap[w.heap.size + 1]? = some (.cells #[.int .i64 a, .bool fl] 83 (0, 0)) ∧ (wr.alloc o).heap[w.heap.size + 1 + 1]? = some (.cells #[.int .i64 0, .int .i64 0] 79 (0, 0)) ∧ (wr.alloc o).heap[w.heap.size + 1 + 1 + 1]? = some (.cells #[.int .i64 (chp I n s R C a fl (k + 1)).1, .int .i64 (chp I n s R C a fl (k + 1)).2] 79 (0, 0)) ∧ Below w.heap.size w (wr.alloc o)) := boxed (fun o => by
          refine ⟨(Below.heap_alloc _ _ _ z1).trans E1.out, (Below.heap_alloc _ _ _ z2).trans E2.out, (Below.heap_alloc _ _ _ z3).trans ?_, HBr.out.alloc HBr.out.size _⟩
          rw [HS0.out, if_pos (by rw [HX.out]; exact hA), HB.out]
          exact E3.out)
        clear HS0
        go_wp2_with fail
        go_roundw
        case rel => exact ⟨k + 1, by omega, by go_num, boxed (HW.out _)⟩
        case measure => simp [intOf]; omega
      · have d1 : (x7 == 1125899906842624) = false := by simp [hA]
        obtain ⟨⟨r1, r2⟩, r3, r4⟩ := HCk.out hA
        obtain ⟨j, rfl⟩ : ∃ j : Nat, x1 = (j : Int) := ⟨x1.toNat, by omega⟩
        obtain ⟨c, rfl⟩ : ∃ c : Nat, x5 = (c : Int) := ⟨x5.toNat, by omega⟩
        have hj : j < nbk I n := by omega
        have hc4 : c < 4 := by omega
        obtain ⟨q, hq⟩ : ∃ q, cq I n s R C a fl k = q := ⟨_, rfl⟩
        have hq2 : tt (cst s ⟨x2, x3, x4, (c : Int), x6⟩ (itb I n (j : Int)) a fl (decide (j + 1 = nbk I n))) (R j c).1 = q := by
          rw [← hq]
          unfold cq
          rw [HX.out]
          simp only [Int.toNat_natCast]
          congr 2
          rw [Bool.eq_iff_iff]; simp; omega
        have HST : Box (chp I n s R C a fl (k + 1) = if q < b0 ∨ (q = b0 ∧ (j : Int) < b1) then (q, (j : Int)) else (b0, b1)) := boxed (by rw [HS0.out, if_neg (by rw [HX.out]; exact hA), HB.out, hq, HX.out])
        have HCO : Box (∀ W, Below w.heap.size w W → Calls Tryz.prog 48 #[.pointer (some ⟨sb, 0, none⟩), .agg #[.int .i64 x2, .int .i64 x3, .int .i64 x4, .int .i64 (c : Int), .bool x6], .int .i64 (j : Int), .agg #[.int .i64 a, .bool fl]] W fun e' w' => e' = .returned (.int .i64 q) ∧ Below W.heap.size W w') := boxed (fun W hb => by
          obtain ⟨kP, kS, kR⟩ := HP.out _ hb
          rw [← hq2]
          exact cost9_any kP hn kS.sr j c hj hc4 _ (kR j c hj hc4).1 x2 x3 x4 x6 a ha fl)
        have HK : Box (∀ W, Below (wr.alloc (.cells #[.int .i64 (j : Int), .int .i64 x2, .int .i64 x3, .int .i64 x4, .int .i64 (c : Int), .bool x6, .int .i64 x7] 74)).heap.size (wr.alloc (.cells #[.int .i64 (j : Int), .int .i64 x2, .int .i64 x3, .int .i64 x4, .int .i64 (c : Int), .bool x6, .int .i64 x7] 74)) W → W.heap[w.heap.size + 1]? = some (.cells #[.int .i64 a, .bool fl] 83 (0, 0)) ∧ W.heap[w.heap.size + 1 + 1]? = some (.cells #[.int .i64 0, .int .i64 0] 79 (0, 0)) ∧ W.heap[w.heap.size + 1 + 1 + 1]? = some (.cells #[.int .i64 b0, .int .i64 b1] 79 (0, 0)) ∧ W.heap[wr.heap.size]? = some (.cells #[.int .i64 (j : Int), .int .i64 x2, .int .i64 x3, .int .i64 x4, .int .i64 (c : Int), .bool x6, .int .i64 x7] 74 (0, 0)) ∧ Below w.heap.size w W) := boxed (fun W hb => by
          have hzz : (wr.alloc (.cells #[.int .i64 (j : Int), .int .i64 x2, .int .i64 x3, .int .i64 x4, .int .i64 (c : Int), .bool x6, .int .i64 x7] 74)).heap.size = wr.heap.size + 1 := by simp
          rw [hzz] at hb
          refine ⟨?_, ?_, ?_, ?_, (HBr.out.alloc HBr.out.size _).trans (hb.mono (by have := HBr.out.size; omega))⟩
          · rw [hb.block _ (by omega)]; exact (Below.heap_alloc _ _ _ z1).trans E1.out
          · rw [hb.block _ (by omega)]; exact (Below.heap_alloc _ _ _ z2).trans E2.out
          · rw [hb.block _ (by omega)]; exact (Below.heap_alloc _ _ _ z3).trans E3.out
          · rw [hb.block _ (by omega)]; exact heap_alloc_new wr _)
        clear HS0 hq hq2 hix E1 E2 E3
        have hix := HIX.out k hlt
        unfold Ln.cells at hix
        rw [HX.out] at hix
        simp only at hix
        go_wp2_with fail
        refine (HCO.out _ (HBr.out.alloc HBr.out.size _)).mono ?_
        rintro e' w5 ⟨rfl, hb5⟩
        have HB5 := boxed hb5
        clear hb5 HCO a0 a1 g0 g1 y0 y1
        obtain ⟨⟨g0, g1⟩, y0, y1⟩ := cells2 (HK.out _ HB5.out).2.2.1
        obtain ⟨⟨p0, -, -, -, -, -, p6⟩, -⟩ := cells7 (HK.out _ HB5.out).2.2.2.1
        have m1 := heap_lt (HK.out _ HB5.out).2.2.1
        by_cases c1 : q < b0
        · have d2 : decide (q < b0) = true := decide_eq_true c1
          have e5 : Box ((w5.setCells (w.heap.size + 1 + 1 + 1) 0 [.int .i64 q, .int .i64 (j : Int)]).heap[w.heap.size + 1 + 1 + 1]? = some (.cells #[.int .i64 q, .int .i64 (j : Int)] 79 (0, 0))) := boxed (sets_heap _ _ _ 0 w5 _ (HK.out _ HB5.out).2.2.1)
          have e6 : Box ((w5.setCells (w.heap.size + 1 + 1 + 1) 0 [.int .i64 q, .int .i64 (j : Int)]).heap[w.heap.size + 1]? = some (.cells #[.int .i64 a, .bool fl] 83 (0, 0)) ∧ (w5.setCells (w.heap.size + 1 + 1 + 1) 0 [.int .i64 q, .int .i64 (j : Int)]).heap[w.heap.size + 1 + 1]? = some (.cells #[.int .i64 0, .int .i64 0] 79 (0, 0)) ∧ Below w.heap.size w (w5.setCells (w.heap.size + 1 + 1 + 1) 0 [.int .i64 q, .int .i64 (j : Int)])) := boxed ⟨(sets_other _ _ (by omega) _ _ _).trans (HK.out _ HB5.out).1, (sets_other _ _ (by omega) _ _ _).trans (HK.out _ HB5.out).2.1, (HK.out _ HB5.out).2.2.2.2.trans (sets_below _ _ (by omega) _ _ _)⟩
          simp only [World.setCells, Nat.zero_add] at e5 e6
          go_wp2_with fail
          go_roundw
          case rel => exact ⟨k + 1, by omega, by go_num, boxed ⟨e6.out.1, e6.out.2.1, by rw [HST.out, if_pos (.inl c1)]; exact e5.out, e6.out.2.2⟩⟩
          case measure => simp [intOf]; omega
        have d2 : decide (q < b0) = false := decide_eq_false c1
        by_cases c2 : q = b0
        · have d3 : (q == b0) = true := by simp [c2]
          have C2 := boxed c2
          clear c2
          by_cases c3 : (j : Int) < b1
          · have d4 : decide ((j : Int) < b1) = true := decide_eq_true c3
            have e5 : Box ((w5.setCells (w.heap.size + 1 + 1 + 1) 0 [.int .i64 q, .int .i64 (j : Int)]).heap[w.heap.size + 1 + 1 + 1]? = some (.cells #[.int .i64 q, .int .i64 (j : Int)] 79 (0, 0))) := boxed (sets_heap _ _ _ 0 w5 _ (HK.out _ HB5.out).2.2.1)
            have e6 : Box ((w5.setCells (w.heap.size + 1 + 1 + 1) 0 [.int .i64 q, .int .i64 (j : Int)]).heap[w.heap.size + 1]? = some (.cells #[.int .i64 a, .bool fl] 83 (0, 0)) ∧ (w5.setCells (w.heap.size + 1 + 1 + 1) 0 [.int .i64 q, .int .i64 (j : Int)]).heap[w.heap.size + 1 + 1]? = some (.cells #[.int .i64 0, .int .i64 0] 79 (0, 0)) ∧ Below w.heap.size w (w5.setCells (w.heap.size + 1 + 1 + 1) 0 [.int .i64 q, .int .i64 (j : Int)])) := boxed ⟨(sets_other _ _ (by omega) _ _ _).trans (HK.out _ HB5.out).1, (sets_other _ _ (by omega) _ _ _).trans (HK.out _ HB5.out).2.1, (HK.out _ HB5.out).2.2.2.2.trans (sets_below _ _ (by omega) _ _ _)⟩
            simp only [World.setCells, Nat.zero_add] at e5 e6
            go_wp2_with fail
            go_roundw
            case rel => exact ⟨k + 1, by omega, by go_num, boxed ⟨e6.out.1, e6.out.2.1, by rw [HST.out, if_pos (.inr ⟨C2.out, c3⟩)]; exact e5.out, e6.out.2.2⟩⟩
            case measure => simp [intOf]; omega
          · have d4 : decide ((j : Int) < b1) = false := decide_eq_false c3
            go_wp2_with fail
            go_roundw
            case rel => exact ⟨k + 1, by omega, by go_num, boxed ⟨(HK.out _ HB5.out).1, (HK.out _ HB5.out).2.1, by rw [HST.out, if_neg (by have := C2.out; omega)]; exact (HK.out _ HB5.out).2.2.1, (HK.out _ HB5.out).2.2.2.2⟩⟩
            case measure => simp [intOf]; omega
        · have d3 : (q == b0) = false := by simp [c2]
          go_wp2_with fail
          go_roundw
          case rel => exact ⟨k + 1, by omega, by go_num, boxed ⟨(HK.out _ HB5.out).1, (HK.out _ HB5.out).2.1, by rw [HST.out, if_neg (by omega)]; exact (HK.out _ HB5.out).2.2.1, (HK.out _ HB5.out).2.2.2.2⟩⟩
          case measure => simp [intOf]; omega
    · obtain rfl : k = 4 := by omega
      have t1 : decide (((4 : Nat) : Int) < 4) = false := by simp
      obtain ⟨b0, b1, hbest⟩ : ∃ b0 b1, chp I n s R C a fl 4 = (b0, b1) := ⟨_, _, rfl⟩
      have HB := boxed hbest
      rw [hbest] at e3
      simp only at e3
      obtain ⟨⟨g0, g1⟩, -⟩ := cells2 e3
      obtain ⟨⟨g2, g3⟩, y2, y3⟩ := cells2 e2
      have HP2 : Box ((wr.setCells (w.heap.size + 1 + 1) 0 [.int .i64 b0, .int .i64 b1]).heap[w.heap.size + 1 + 1]? = some (.cells #[.int .i64 b0, .int .i64 b1] 79 (0, 0))) := boxed (sets_heap _ _ _ 0 wr _ e2)
      have HF2 := boxed (hb.trans (sets_below (w.heap.size + 1 + 1) w.heap.size (by omega) [.int .i64 b0, .int .i64 b1] 0 wr))
      simp only [World.setCells, Nat.zero_add] at HP2 HF2
      clear e1 e2 e3 hb hbest HR
      go_wp2_with fail
      refine bodyPost_ret (results_cell_row rfl _ _ (w.heap.size + 1 + 1) 79 #[.int .i64 b0, .int .i64 b1] (0, 0) _ rfl HP2.out Tryz.underlying79 rfl (by kernel_rfl)) rfl ⟨by rw [HB.out], HF2.out⟩
end
end Go.Proofs.YtkmeeblkckfepabGreat
