/-
  What the program's cube, wideBad and Bad answer.
-/
import Derived.Test.YtkmeeblkckfepabGreatN
import Derived.Lib.QuietBelow
namespace Go.Proofs.YtkmeeblkckfepabGreat
open Go.RowKit
set_option linter.unusedSimpArgs false
set_option linter.unusedVariables false

theorem bcell {W w1 : World} (hb : Below W.heap.size W w1) : (∀ b o, b < W.heap.size → w1.cell? ⟨b, o, none⟩ = W.cell? ⟨b, o, none⟩) ∧ (∀ b o, b < W.heap.size → w1.frozen? ⟨b, o, none⟩ = W.frozen? ⟨b, o, none⟩) :=
  ⟨fun b o h => hb.cell (p := ⟨b, o, none⟩) h, fun b o h => hb.frozen (p := ⟨b, o, none⟩) h⟩

theorem wv_zero (a : Nat) : wv a 0 0 0 = a := by unfold wv; omega
theorem wv_top (y0 y1 y2 y3 c : Nat) (h : wv y0 y1 y2 (y3 + 18446744073709551616 * c) < 115792089237316195423570985008687907853269984665640564039457584007913129639936) : wv y0 y1 y2 (y3 + 18446744073709551616 * c) = wv y0 y1 y2 y3 := by
  unfold wv at *
  have : c = 0 := by omega
  subst this
  rfl

set_option maxRecDepth 100000 in
set_option maxHeartbeats 2000000 in
theorem cube_w (a : Nat) (w : World) (ha : a ≤ 1152921504606846976) :
    Calls Tryz.prog 96 #[.int .i64 a] w fun e w' => ∃ y0 y1 y2 y3 : Nat, e = .returned (.agg #[.int .u64 y0, .int .u64 y1, .int .u64 y2, .int .u64 y3]) ∧
      Box (y0 < 18446744073709551616 ∧ y1 < 18446744073709551616 ∧ y2 < 18446744073709551616 ∧ y3 < 18446744073709551616) ∧ Box (wv y0 y1 y2 y3 = a * a * a) ∧ Below w.heap.size w w' := by
  have HA := hidq (show a < 18446744073709551616 by omega)
  have b1 : (0 : Int) ≤ (a : Int) ∧ (a : Int) ≤ 1152921504606846976 := by omega
  go_enter Tryz.func96, Tryz.ntmps96
  go_wp2_with fail
  obtain ⟨y0, y1, y2, y3, hl, ⟨c, hc⟩, hcall⟩ := times_w a 0 0 0 a HA.out (by omega) (by omega) (by omega) HA.out
  refine (hcall _).mono ?_
  rintro e w1 ⟨rfl, hb1⟩
  clear hcall
  rw [wv_zero] at hc
  have hv : wv y0 y1 y2 y3 = a * a := by
    have h1 : a * a ≤ 1152921504606846976 * 1152921504606846976 := Nat.mul_le_mul ha ha
    rw [hc] at h1 ⊢
    exact (wv_top _ _ _ _ c (by omega)).symm
  have HL := hidq hl
  have HV := hidq hv
  have HB1 := hidq hb1
  clear hl hc hv hb1
  go_wp2_with fail
  obtain ⟨z0, z1, z2, z3, hl, ⟨c, hc⟩, hcall⟩ := times_w y0 y1 y2 y3 a HL.out.1 HL.out.2.1 HL.out.2.2.1 HL.out.2.2.2 HA.out
  refine (hcall _).mono ?_
  rintro e w2 ⟨rfl, hb2⟩
  clear hcall
  rw [HV.out] at hc
  have hv : wv z0 z1 z2 z3 = a * a * a := by
    have h1 : a * a ≤ 1152921504606846976 * 1152921504606846976 := Nat.mul_le_mul ha ha
    have h2 : a * a * a ≤ 1152921504606846976 * 1152921504606846976 * 1152921504606846976 := Nat.mul_le_mul h1 ha
    rw [hc] at h2 ⊢
    exact (wv_top _ _ _ _ c (by omega)).symm
  have HL2 := hidq hl
  have HV2 := hidq hv
  have hb := HB1.out.trans (hb2.mono HB1.out.size)
  obtain ⟨hc', hf'⟩ := bcell hb
  have hbk := hb.block w.heap.size (by simp)
  have hz : w.heap.size < w2.heap.size := by have := hb.size; simp at this; omega
  have HB := hidq hb
  clear hl hc hv hb2 hb HB1
  go_wp2_with fail
  refine bodyPost_ret (v := .agg #[.int .u64 z0, .int .u64 z1, .int .u64 z2, .int .u64 z3]) (by simp [results, Tryz.results96, go_sem, hc', hf', hz]) rfl ⟨z0, z1, z2, z3, rfl, HL2, HV2, ?_⟩
  have hb0 : Below w.heap.size w w2 := ((Below.refl _ _).alloc (Nat.le_refl _) _).trans (HB.out.mono (by simp))
  refine Below.setCell (Below.setCell (Below.setCell (Below.setCell hb0 ?_ _) ?_ _) ?_ _) ?_ _ <;> exact Nat.le_refl _

/-- What the closure that is searched by answers at n: is the unit n + 1 times above the most? -/
def fa (t s n : Nat) : Bool := decide (100 * (t * t * t) < s * s * s * (n + 1))

set_option maxRecDepth 100000 in
set_option maxHeartbeats 400000 in
theorem clo_w (t s n u0 u1 u2 u3 v0 v1 v2 v3 U M : Nat) (w : World) (hn : n ≤ 10000) (hs : s ≤ 1152921504606846976)
    (hu : Box (u0 < 18446744073709551616 ∧ u1 < 18446744073709551616 ∧ u2 < 18446744073709551616 ∧ u3 < 18446744073709551616)) (hv : Box (v0 < 18446744073709551616 ∧ v1 < 18446744073709551616 ∧ v2 < 18446744073709551616 ∧ v3 < 18446744073709551616))
    (eu : Box (wv u0 u1 u2 u3 = s * s * s)) (ev : Box (wv v0 v1 v2 v3 = 100 * (t * t * t))) (hU : U < w.heap.size) (hM : M < w.heap.size)
    (cu : w.heap[U]? = some (.cells #[.int .u64 u0, .int .u64 u1, .int .u64 u2, .int .u64 u3] 129 (0, 0))) (cv : w.heap[M]? = some (.cells #[.int .u64 v0, .int .u64 v1, .int .u64 v2, .int .u64 v3] 129 (0, 0))) :
    Calls Tryz.prog 99 #[.int .i64 n, .pointer (some ⟨U, 0, none⟩), .pointer (some ⟨M, 0, none⟩)] w fun e w' => e = .returned (.bool (fa t s n)) ∧ Below w.heap.size w w' := by
  have U0 : w.cell? ⟨U, 0, none⟩ = some (.int .u64 u0) := by simp [World.cell?, cu]
  have U1 : w.cell? ⟨U, 1, none⟩ = some (.int .u64 u1) := by simp [World.cell?, cu]
  have U2 : w.cell? ⟨U, 2, none⟩ = some (.int .u64 u2) := by simp [World.cell?, cu]
  have U3 : w.cell? ⟨U, 3, none⟩ = some (.int .u64 u3) := by simp [World.cell?, cu]
  have M0 : w.cell? ⟨M, 0, none⟩ = some (.int .u64 v0) := by simp [World.cell?, cv]
  have M1 : w.cell? ⟨M, 1, none⟩ = some (.int .u64 v1) := by simp [World.cell?, cv]
  have M2 : w.cell? ⟨M, 2, none⟩ = some (.int .u64 v2) := by simp [World.cell?, cv]
  have M3 : w.cell? ⟨M, 3, none⟩ = some (.int .u64 v3) := by simp [World.cell?, cv]
  have V0 := cell_regrown U0
  have V1 := cell_regrown U1
  have V2 := cell_regrown U2
  have V3 := cell_regrown U3
  have N0 := cell_regrown M0
  have N1 := cell_regrown M1
  have N2 := cell_regrown M2
  have N3 := cell_regrown M3
  obtain ⟨z0, z1, z2, z3, hl, ⟨c, hc⟩, hcall⟩ := times_w u0 u1 u2 u3 (n + 1) hu.out.1 hu.out.2.1 hu.out.2.2.1 hu.out.2.2.2 (by omega)
  rw [eu.out] at hc
  have hz : wv z0 z1 z2 z3 = s * s * s * (n + 1) := by
    have h1 : s * s ≤ 1152921504606846976 * 1152921504606846976 := Nat.mul_le_mul hs hs
    have h2 : s * s * s ≤ 1152921504606846976 * 1152921504606846976 * 1152921504606846976 := Nat.mul_le_mul h1 hs
    have h3 : s * s * s * (n + 1) ≤ 1152921504606846976 * 1152921504606846976 * 1152921504606846976 * 10001 := Nat.mul_le_mul h2 (by omega)
    rw [hc] at h3 ⊢
    exact (wv_top _ _ _ _ c (by omega)).symm
  have HL := hidq hl
  have HF : Box (fa t s n = decide (wv v0 v1 v2 v3 < wv z0 z1 z2 z3)) := ⟨by rw [ev.out, hz]; rfl⟩
  obtain ⟨m, hm⟩ : ∃ m : Nat, n + 1 = m := ⟨_, rfl⟩
  have W1 : IntKind.u64.wrap (n : Int) = (n : Int) := by rw [IntKind.wrap_u64]; omega
  have W2 : IntKind.u64.wrap ((n : Int) + 1) = (m : Int) := by rw [IntKind.wrap_u64]; omega
  rw [hm] at hcall
  have cT : ∀ d os, Calls Tryz.prog 97 #[.agg #[.int .u64 u0, .int .u64 u1, .int .u64 u2, .int .u64 u3], .int .u64 (m : Int)] (Go.Sort.grow (redrawn w d) os) fun e w'' => e = .returned (.agg #[.int .u64 z0, .int .u64 z1, .int .u64 z2, .int .u64 z3]) ∧ ∃ p : Regrown, w'' = Go.Sort.grow (redrawn w p.d) p.os := by
    intro d os
    exact Calls.regrown_of (hcall _)
  have cA : ∀ d os, Calls Tryz.prog 100 #[.agg #[.int .u64 z0, .int .u64 z1, .int .u64 z2, .int .u64 z3], .agg #[.int .u64 v0, .int .u64 v1, .int .u64 v2, .int .u64 v3]] (Go.Sort.grow (redrawn w d) os) fun e w'' => e = .returned (.bool (fa t s n)) ∧ ∃ p : Regrown, w'' = Go.Sort.grow (redrawn w p.d) p.os := by
    intro d os
    exact Calls.regrown_of (above_w z0 z1 z2 z3 v0 v1 v2 v3 _ _ HF HL hv)
  have CT := hidq cT
  have CA := hidq cA
  clear cT cA hcall hl hc hz hm U0 U1 U2 U3 M0 M1 M2 M3 cu cv HF
  go_enter Tryz.func99, Tryz.ntmps99
  go_wp2_with fail
  refine wp_region_quiet_below (by kernel_rfl) (by kernel_rfl) ?_
  repeat (quiet_step (first | exact CT.out _ _ | exact CA.out _ _))
  refine wpQuiet_nil ?_
  intro _ hw'
  obtain ⟨⟨dq, osq⟩, hw''⟩ := hw'
  subst hw''
  go_wp2_with fail
  go_ret
  exact ⟨rfl, below_regrown w dq osq⟩

/-- Badness of two numbers above 0: 100 times the third power of the one by the other, rounded down, at most 10000. -/
def bw (t s : Nat) : Nat := min (100 * (t * t * t) / (s * s * s)) 10000
theorem cube_pos (s : Nat) (h : 0 < s) : 0 < s * s * s := Nat.mul_pos (Nat.mul_pos h h) h
theorem fa_iff (t s n : Nat) (h : 0 < s) : fa t s n = true ↔ 100 * (t * t * t) / (s * s * s) ≤ n := by
  unfold fa
  rw [decide_eq_true_eq, Nat.mul_comm (s * s * s), ← Nat.div_lt_iff_lt_mul (cube_pos s h)]
  exact Nat.lt_succ_iff

set_option maxRecDepth 100000 in
set_option maxHeartbeats 400000 in
theorem search_w (t s u0 u1 u2 u3 v0 v1 v2 v3 U M : Nat) (w : World) (hs : s ≤ 1152921504606846976) (hs0 : 0 < s)
    (hu : Box (u0 < 18446744073709551616 ∧ u1 < 18446744073709551616 ∧ u2 < 18446744073709551616 ∧ u3 < 18446744073709551616)) (hv : Box (v0 < 18446744073709551616 ∧ v1 < 18446744073709551616 ∧ v2 < 18446744073709551616 ∧ v3 < 18446744073709551616))
    (eu : Box (wv u0 u1 u2 u3 = s * s * s)) (ev : Box (wv v0 v1 v2 v3 = 100 * (t * t * t))) (hU : Box (U < w.heap.size)) (hM : Box (M < w.heap.size))
    (cu : Box (w.heap[U]? = some (.cells #[.int .u64 u0, .int .u64 u1, .int .u64 u2, .int .u64 u3] 129 (0, 0)))) (cv : Box (w.heap[M]? = some (.cells #[.int .u64 v0, .int .u64 v1, .int .u64 v2, .int .u64 v3] 129 (0, 0)))) :
    Calls Tryz.prog 98 #[.int .i64 10000, .func (.func 99) #[] #[.pointer (some ⟨U, 0, none⟩), .pointer (some ⟨M, 0, none⟩)]] w fun e w' => e = .returned (.int .i64 (bw t s : Nat)) ∧ Below w.heap.size w w' := by
  have HS := hidq hs
  have HS0 := hidq hs0
  clear hs hs0
  go_enter Tryz.func98, Tryz.ntmps98
  go_wp2_with fail
  go_loopw [5, 6] (fun a b wr => ∃ i j : Nat, i ≤ j ∧ j ≤ 10000 ∧ a = .int .i64 i ∧ b = .int .i64 j ∧ Box (i ≤ bw t s ∧ bw t s ≤ j) ∧ Box (Below w.heap.size w wr)) (fun a b _ => (intOf b - intOf a).toNat)
  case atStart => exact ⟨0, 10000, by omega, by omega, rfl, rfl, ⟨Nat.zero_le _, Nat.min_le_right _ _⟩, ⟨Below.refl _ _⟩⟩
  case round =>
    obtain ⟨i, j, h1, h2, rfl, rfl, HQ, HB⟩ := hrel
    by_cases hlt : i < j
    · obtain ⟨m, hm⟩ : ∃ m : Nat, (i + j) / 2 = m := ⟨_, rfl⟩
      have em : ((i : Int) + (j : Int)) / 2 = (m : Int) := by omega
      have m1 : i ≤ m := by omega
      have m2 : m < j := by omega
      clear hm
      have HC := hidq (clo_w t s m u0 u1 u2 u3 v0 v1 v2 v3 U M wr (by omega) HS.out hu hv eu ev (Nat.lt_of_lt_of_le hU.out HB.out.size) (Nat.lt_of_lt_of_le hM.out HB.out.size) ((HB.out.block U hU.out).trans cu.out) ((HB.out.block M hM.out).trans cv.out))
      go_wp2_with fail
      refine HC.out.mono ?_
      rintro e w1 ⟨rfl, hb1⟩
      have HB2 := hidq (HB.out.trans (hb1.mono HB.out.size))
      have HF := hidq (fa_iff t s m HS0.out)
      clear hb1 HC
      cases hf : fa t s m with
      | true =>
        have HN : Box (bw t s ≤ m) := ⟨Nat.le_trans (Nat.min_le_left _ _) (HF.out.1 hf)⟩
        go_wp2_with fail
        go_roundw
        case rel => exact ⟨i, m, m1, by omega, rfl, rfl, ⟨HQ.out.1, HN.out⟩, HB2⟩
        case measure => simp [intOf]; omega
      | false =>
        have HN : Box (m + 1 ≤ bw t s) := ⟨by
          have : ¬ 100 * (t * t * t) / (s * s * s) ≤ m := fun h => by rw [HF.out.2 h] at hf; cases hf
          unfold bw
          generalize 100 * (t * t * t) / (s * s * s) = q at *
          omega⟩
        go_wp2_with fail
        go_roundw
        case rel => exact ⟨m + 1, j, by omega, h2, by go_num, rfl, ⟨HN.out, HQ.out.2⟩, HB2⟩
        case measure => simp [intOf]; omega
    · have e : bw t s = i := by have := HQ.out; omega
      have HE := hidq e
      clear e
      go_wp2_with fail
      go_ret
      exact ⟨ret_int (by rw [HE.out]), HB.out⟩

set_option maxRecDepth 100000 in
set_option maxHeartbeats 400000 in
theorem wideBad_w (t s : Nat) (w : World) (ht : t ≤ 1152921504606846976) (hs : s ≤ 1152921504606846976) (hs0 : 0 < s) :
    Calls Tryz.prog 91 #[.int .i64 t, .int .i64 s] w fun e w' => e = .returned (.int .i64 (bw t s : Nat)) ∧ Below w.heap.size w w' := by
  have hmf : ∀ (fn : Fn) (first cap : Array Value) (w : World), (Instr.makeFunc fn first cap).run Tryz.prog w = .ok (.func fn first cap) w := fun _ _ _ _ => rfl
  have HT := hidq ht
  have HS := hidq hs
  have HS0 := hidq hs0
  clear ht hs hs0
  go_enter Tryz.func91, Tryz.ntmps91
  go_wp2_with fail
  refine (cube_w t _ HT.out).mono ?_
  rintro e w1 ⟨y0, y1, y2, y3, rfl, hl, hv, hb1⟩
  have HB1 := hidq hb1
  clear hb1
  obtain ⟨z0, z1, z2, z3, zl, ⟨c, hc⟩, hcall⟩ := times_w y0 y1 y2 y3 100 hl.out.1 hl.out.2.1 hl.out.2.2.1 hl.out.2.2.2 (by omega)
  have hz : wv z0 z1 z2 z3 = 100 * (t * t * t) := by
    rw [hv.out] at hc
    have h1 : t * t ≤ 1152921504606846976 * 1152921504606846976 := Nat.mul_le_mul HT.out HT.out
    have h2 : t * t * t ≤ 1152921504606846976 * 1152921504606846976 * 1152921504606846976 := Nat.mul_le_mul h1 HT.out
    have h3 : t * t * t * 100 ≤ 1152921504606846976 * 1152921504606846976 * 1152921504606846976 * 100 := Nat.mul_le_mul_right _ h2
    rw [Nat.mul_comm 100]
    rw [hc] at h3 ⊢
    exact (wv_top _ _ _ _ c (by omega)).symm
  have HC := hidq hcall
  have HZ := hidq hz
  have HZL := hidq zl
  clear hcall hz zl hc
  go_wp2_with fail
  refine (HC.out _).mono ?_
  rintro e w2 ⟨rfl, hb2⟩
  have HB2 : Box (Below w.heap.size w w2) := ⟨HB1.out.trans (hb2.mono HB1.out.size)⟩
  clear hb2 HC
  go_wp2_with fail
  refine (cube_w s _ HS.out).mono ?_
  rintro e w3 ⟨x0, x1, x2, x3, rfl, xl, xv, hb3⟩
  have HB3 : Box (Below w.heap.size w w3) := ⟨HB2.out.trans (hb3.mono HB2.out.size)⟩
  clear hb3
  go_wp2_with fail
  have g1 : ∀ (A B : Obj), ((w3.alloc A).alloc B).heap[w3.heap.size + 1]? = some B := fun A B => by
    have := heap_alloc_new (w3.alloc A) B
    simpa using this
  have g2 : ∀ (A B : Obj), ((w3.alloc A).alloc B).heap[w3.heap.size]? = some A := fun A B => by
    rw [Below.heap_alloc _ _ _ (by simp)]
    exact heap_alloc_new w3 A
  refine (search_w t s x0 x1 x2 x3 z0 z1 z2 z3 (w3.heap.size + 1) w3.heap.size _ HS.out HS0.out xl HZL xv HZ ⟨by simp⟩ ⟨by simp; omega⟩ ⟨g1 _ _⟩ ⟨g2 _ _⟩).mono ?_
  rintro e w4 ⟨rfl, hb4⟩
  have HB4 : Box (Below w.heap.size w w4) := ⟨((HB3.out.alloc HB3.out.size _).alloc (by have := HB3.out.size; simp; omega) _).trans (hb4.mono (by have := HB3.out.size; simp; omega))⟩
  clear hb4 g1 g2
  go_wp2_with fail
  go_ret
  exact ⟨rfl, HB4.out⟩
end Go.Proofs.YtkmeeblkckfepabGreat
