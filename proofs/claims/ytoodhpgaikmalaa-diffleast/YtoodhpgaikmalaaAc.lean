/-
  Whether two pages are alike, as the program's Alike answers it.
-/
import Derived.Test.YtoodhpgaikmalaaAa
namespace Go.Proofs.Ytoodhpgaikmalaa
open Go.RowKit
set_option linter.unusedSimpArgs false
set_option linter.unusedVariables false

set_option maxRecDepth 100000 in
set_option maxHeartbeats 8000000 in
theorem equalFunc_any (S S' : Nat → Prop) (la lb : Option Addr) (ks ls : List Key) (lc ld : Nat) (w : World) (h1 : LsAt S w la ks) (h2 : LsAt S' w lb ls) (hn : ks.length ≤ 3000) :
    Calls Try.prog 24 #[.slice la ks.length lc, .slice lb ls.length ld, .func (.func 25) #[] #[]] w fun e w' => e = .returned (.bool (decide (ks = ls))) ∧ Below w.heap.size w w' := by
  by_cases hl : ks.length = ls.length
  · have HEX := boxed (fun h => key_ext hl h)
    have HNO := boxed (fun (j : Nat) (h : ks[j]? ≠ ls[j]?) => (show decide (ks = ls) = false from decide_eq_false (fun e => h (by rw [e]))))
    rw [← hl]
    have hl2 := boxed hl
    clear hl
    obtain ⟨n, hkn⟩ : ∃ n, ks.length = n := ⟨_, rfl⟩
    have H1 := boxed h1
    have H2 := boxed h2
    rw [hkn] at hn HEX ⊢
    have HKN := boxed hkn
    clear hkn h1 h2
    obtain ⟨V, hV⟩ : ∃ V, decide (ks = ls) = V := ⟨_, rfl⟩
    rw [hV] at HNO ⊢
    have HV := boxed hV
    clear hV
    have tn : ((n : Int) != (n : Int)) = false := by simp
    go_enter Try.func24, Try.ntmps24
    go_wp2_with fail
    clear tn
    go_loopw [17] (fun vi wr => ∃ i : Nat, i ≤ n ∧ vi = .int .i64 (i : Nat) ∧ Box (∀ j, j < i → ks[j]? = ls[j]?) ∧ Box (Below w.heap.size w wr)) (fun vi _ => n - (intOf vi).toNat)
    case atStart => exact ⟨0, Nat.zero_le _, rfl, boxed (fun j hj => by omega), boxed (Below.refl _ _)⟩
    case round =>
      obtain ⟨i, hi, rfl, HS, HB⟩ := hrel
      by_cases hlt : i < n
      · obtain ⟨x, ⟨kx, ex⟩, px, b, o, rfl, x0, x1, x2, x3, x4, x5, x6, x7, x8⟩ := (H1.out.below HB.out).line i (by rw [HKN.out]; exact hlt)
        obtain ⟨y, ⟨ky, ey⟩, py, b', o', rfl, y0, y1, y2, y3, y4, y5, y6, y7, y8⟩ := (H2.out.below HB.out).line i (by rw [← hl2.out, HKN.out]; exact hlt)
        have hb1 : b < wr.heap.size := World.block_lt_of_cell? wr _ x0
        have hb2 : b' < wr.heap.size := World.block_lt_of_cell? wr _ y0
        have nb1 : b ≠ wr.heap.size := by omega
        have nb2 : b' ≠ wr.heap.size := by omega
        have hlt2 : (i : Int) < (n : Int) := by omega
        have t0 : decide ((i : Int) < (n : Int)) = true := decide_eq_true (by omega)
        obtain ⟨w2, hw2, h21, h22, h23⟩ : ∃ w2, (wr.alloc (.cells #[.string x.tx, .slice x.ra x.rn x.rc, .int .i64 x.num, .int .i64 x.den, .int .i64 x.h, .bool x.hy, .int .i64 x.y, .bool x.bg, .bool x.en] 37)).alloc (.cells #[.string y.tx, .slice y.ra y.rn y.rc, .int .i64 y.num, .int .i64 y.den, .int .i64 y.h, .bool y.hy, .int .i64 y.y, .bool y.bg, .bool y.en] 37) = w2 ∧ LnB w2 wr.heap.size x ∧ LnB w2 (wr.heap.size + 1) y ∧ Below wr.heap.size wr w2 := by
          have l2 := laid2 wr (.cells #[.string x.tx, .slice x.ra x.rn x.rc, .int .i64 x.num, .int .i64 x.den, .int .i64 x.h, .bool x.hy, .int .i64 x.y, .bool x.bg, .bool x.en] 37) (.cells #[.string y.tx, .slice y.ra y.rn y.rc, .int .i64 y.num, .int .i64 y.den, .int .i64 y.h, .bool y.hy, .int .i64 y.y, .bool y.bg, .bool y.en] 37)
          exact ⟨_, rfl, l2.1, l2.2.1, l2.2.2.1⟩
        have HW2 := boxed hw2
        have HA := boxed (same14_any (w := w2) x y (px.below h23) (py.below h23) kx ky)
        have HB2 := boxed (below_step HB.out (Nat.le_refl _) h23)
        have HL := boxed (And.intro h21.cells h22.cells)
        have HK : Box (decide (key x = key y) = true → ∀ j, j < i + 1 → ks[j]? = ls[j]?) := boxed (fun e j hj => by
          by_cases c : j = i
          · subst c; rw [ex, ey, of_decide_eq_true e]
          · exact HS.out j (by omega))
        have HK2 : Box (decide (key x = key y) = false → V = false) := boxed (fun e => HNO.out i (by rw [ex, ey]; exact fun c => of_decide_eq_false e (Option.some.inj c)))
        generalize decide (key x = key y) = R at *
        simp only [Lne.val] at HA
        clear px py kx ky ex ey hw2 h21 h22 h23
        go_upto_region 7 with (fail)
        rw [HW2.out]
        obtain ⟨⟨c0, c1, c2, c3, c4, c5, c6, c7, c8⟩, d0, d1, d2, d3, d4, d5, d6, d7, d8⟩ := HL.out
        clear x0 x1 x2 x3 x4 x5 x6 x7 x8 y0 y1 y2 y3 y4 y5 y6 y7 y8
        go_wp2_with fail
        refine HA.out.mono ?_
        rintro e w3 ⟨rfl, hb3⟩
        have HB3 := boxed (below_step HB2.out (Nat.le_refl _) hb3)
        clear hb3 HA c0 c1 c2 c3 c4 c5 c6 c7 c8 d0 d1 d2 d3 d4 d5 d6 d7 d8
        cases R with
        | true =>
          go_wp2_with fail
          go_roundw
          case rel => exact ⟨i + 1, by omega, by go_num, boxed (HK.out (by first | rfl | trivial)), HB3⟩
          case measure => simp [intOf]; omega
        | false =>
          have hv := HK2.out (by first | rfl | trivial)
          go_wp2_with fail
          go_ret
          exact ⟨(by first | rfl | exact ret_bool hv.symm), HB3.out⟩
      · obtain rfl : i = n := by omega
        have t0 : decide ((i : Int) < (i : Int)) = false := decide_eq_false (by omega)
        have hv : V = true := by rw [← HV.out]; exact decide_eq_true (HEX.out HS.out)
        go_wp2_with fail
        go_ret
        exact ⟨(by first | rfl | exact ret_bool hv.symm), HB.out⟩
  · have t : ((ks.length : Int) != (ls.length : Int)) = true := by rw [bne_iff_ne]; omega
    have t2 : (ks.length != ls.length) = true := by rw [bne_iff_ne]; omega
    have hv : decide (ks = ls) = false := decide_eq_false (fun e => hl (by rw [e]))
    generalize decide (ks = ls) = V at *
    generalize ks.length = n at *
    generalize ls.length = m at *
    clear h1 h2 hl
    go_enter Try.func24, Try.ntmps24
    go_wp2_with fail
    go_ret
    exact ⟨(by first | rfl | exact ret_bool hv.symm), Below.refl _ _⟩
set_option maxRecDepth 100000 in
set_option maxHeartbeats 8000000 in
theorem alike_any (S S' : Nat → Prop) (la lb : Option Addr) (ks ls : List Key) (lc ld : Nat) (w : World) (h1 : LsAt S w la ks) (h2 : LsAt S' w lb ls) (hn : ks.length ≤ 3000) :
    Calls Try.prog 14 #[.agg #[.slice la ks.length lc], .agg #[.slice lb ls.length ld]] w fun e w' => e = .returned (.bool (decide (ks = ls))) ∧ Below w.heap.size w w' := by
  obtain ⟨wc, hwc, hB0, hZ0, hC0⟩ := two_pages w (.slice la ks.length lc) (.slice lb ls.length ld)
  have HE := boxed (equalFunc_any S S' la lb ks ls lc ld wc (h1.below hB0) (h2.below hB0) hn)
  generalize ks.length = n at *
  generalize ls.length = m at *
  generalize decide (ks = ls) = V at *
  obtain ⟨a0, b0⟩ := hC0 _ (Below.refl _ wc)
  have HWC := boxed hwc
  have HB0 := boxed hB0
  clear hwc hB0 hZ0 hC0 h1 h2 hn
  go_enter Try.func14, Try.ntmps14
  go_upto_region 1 with (fail)
  rw [HWC.out]
  go_wp2_with fail
  refine HE.out.mono ?_
  rintro e w1 ⟨rfl, hb1⟩
  have HB1 := boxed (below_step HB0.out (Nat.le_refl _) hb1)
  clear hb1 HE a0 b0
  go_wp2_with fail
  go_ret
  exact ⟨rfl, HB1.out⟩
end Go.Proofs.Ytoodhpgaikmalaa
