/-
  What the program's cube, wideBad and Bad answer.
-/
import Derived.Lib.QuietBelow
import Derived.Test.YtcjcdpfjnomehaaGreatPk4
namespace Go.Proofs.YtcjcdpfjnomehaaGreat
open Go.RowKit
set_option linter.unusedSimpArgs false
set_option linter.unusedVariables false
theorem bcell {W w1 : World} (hb : Below W.heap.size W w1) : (∀ b o, b < W.heap.size → w1.cell? ⟨b, o, none⟩ = W.cell? ⟨b, o, none⟩) ∧ (∀ b o, b < W.heap.size → w1.frozen? ⟨b, o, none⟩ = W.frozen? ⟨b, o, none⟩) :=
  ⟨fun b o h => hb.cell (p := ⟨b, o, none⟩) h, fun b o h => hb.frozen (p := ⟨b, o, none⟩) h⟩
theorem wv_zero (a : Nat) : wv a 0 0 0 = a := by unfold wv; omega
theorem wv_top (y0 y1 y2 y3 c : Nat) (h : wv y0 y1 y2 (y3 + 18446744073709551616 * c) < 115792089237316195423570985008687907853269984665640564039457584007913129639936) : wv y0 y1 y2 (y3 + 18446744073709551616 * c) = wv y0 y1 y2 y3 := by
  unfold wv at *
  have : c = 0 := by omega
  subst this
  rfl
set_option maxRecDepth 100000 in
set_option maxHeartbeats 2000000 in
theorem cube_w (a : Nat) (w : World) (ha : a ≤ 1152921504606846976) :
    Calls Tryz.prog 218 #[.int .i64 a] w fun e w' => ∃ y0 y1 y2 y3 : Nat, e = .returned (.agg #[.int .u64 y0, .int .u64 y1, .int .u64 y2, .int .u64 y3]) ∧
      Box (y0 < 18446744073709551616 ∧ y1 < 18446744073709551616 ∧ y2 < 18446744073709551616 ∧ y3 < 18446744073709551616) ∧ Box (wv y0 y1 y2 y3 = a * a * a) ∧ Below w.heap.size w w' := by
  have HA := hidq (show a < 18446744073709551616 by omega)
  have b1 : (0 : Int) ≤ (a : Int) ∧ (a : Int) ≤ 1152921504606846976 := by omega
  go_enter Tryz.func218, Tryz.ntmps218
  go_wp2_with fail
  obtain ⟨y0, y1, y2, y3, hl, ⟨c, hc⟩, hcall⟩ := times_w a 0 0 0 a HA.out (by omega) (by omega) (by omega) HA.out
  refine (hcall _).mono ?_
  rintro e w1 ⟨rfl, hb1⟩
  clear hcall
  rw [wv_zero] at hc
  have hv : wv y0 y1 y2 y3 = a * a := by
    have h1 : a * a ≤ 1152921504606846976 * 1152921504606846976 := Nat.mul_le_mul ha ha
    rw [hc] at h1 ⊢
    exact (wv_top _ _ _ _ c (by omega)).symm
  have HL := hidq hl
  have HV := hidq hv
  have HB1 := hidq hb1
  clear hl hc hv hb1
  go_wp2_with fail
  obtain ⟨z0, z1, z2, z3, hl, ⟨c, hc⟩, hcall⟩ := times_w y0 y1 y2 y3 a HL.out.1 HL.out.2.1 HL.out.2.2.1 HL.out.2.2.2 HA.out
  refine (hcall _).mono ?_
  rintro e w2 ⟨rfl, hb2⟩
  clear hcall
  rw [HV.out] at hc
  have hv : wv z0 z1 z2 z3 = a * a * a := by
    have h1 : a * a ≤ 1152921504606846976 * 1152921504606846976 := Nat.mul_le_mul ha ha
    have h2 : a * a * a ≤ 1152921504606846976 * 1152921504606846976 * 1152921504606846976 := Nat.mul_le_mul h1 ha
    rw [hc] at h2 ⊢
    exact (wv_top _ _ _ _ c (by omega)).symm
  have HL2 := hidq hl
  have HV2 := hidq hv
  have hb := HB1.out.trans (hb2.mono HB1.out.size)
  obtain ⟨hc', hf'⟩ := bcell hb
  have hbk := hb.block w.heap.size (by simp)
  have hz : w.heap.size < w2.heap.size := by have := hb.size; simp at this; omega
  have HB := hidq hb
  clear hl hc hv hb2 hb HB1
  go_wp2_with fail
  refine bodyPost_ret (v := .agg #[.int .u64 z0, .int .u64 z1, .int .u64 z2, .int .u64 z3]) (by simp [results, Tryz.results218, go_sem, hc', hf', hz]) rfl ⟨z0, z1, z2, z3, rfl, HL2, HV2, ?_⟩
  have hb0 : Below w.heap.size w w2 := ((Below.refl _ _).alloc (Nat.le_refl _) _).trans (HB.out.mono (by simp))
  refine Below.setCell (Below.setCell (Below.setCell (Below.setCell hb0 ?_ _) ?_ _) ?_ _) ?_ _ <;> exact Nat.le_refl _
def fa (t s n : Nat) : Bool := decide (100 * (t * t * t) < s * s * s * (n + 1))
set_option maxRecDepth 100000 in
set_option maxHeartbeats 400000 in
theorem clo_w (t s n u0 u1 u2 u3 v0 v1 v2 v3 U M : Nat) (w : World) (hn : n ≤ 10000) (hs : s ≤ 1152921504606846976)
    (hu : Box (u0 < 18446744073709551616 ∧ u1 < 18446744073709551616 ∧ u2 < 18446744073709551616 ∧ u3 < 18446744073709551616)) (hv : Box (v0 < 18446744073709551616 ∧ v1 < 18446744073709551616 ∧ v2 < 18446744073709551616 ∧ v3 < 18446744073709551616))
    (eu : Box (wv u0 u1 u2 u3 = s * s * s)) (ev : Box (wv v0 v1 v2 v3 = 100 * (t * t * t))) (hU : U < w.heap.size) (hM : M < w.heap.size)
    (cu : w.heap[U]? = some (.cells #[.int .u64 u0, .int .u64 u1, .int .u64 u2, .int .u64 u3] 274 (0, 0))) (cv : w.heap[M]? = some (.cells #[.int .u64 v0, .int .u64 v1, .int .u64 v2, .int .u64 v3] 274 (0, 0))) :
    Calls Tryz.prog 220 #[.int .i64 n, .pointer (some ⟨U, 0, none⟩), .pointer (some ⟨M, 0, none⟩)] w fun e w' => e = .returned (.bool (fa t s n)) ∧ Below w.heap.size w w' := by
  have U0 : w.cell? ⟨U, 0, none⟩ = some (.int .u64 u0) := by simp [World.cell?, cu]
  have U1 : w.cell? ⟨U, 1, none⟩ = some (.int .u64 u1) := by simp [World.cell?, cu]
  have U2 : w.cell? ⟨U, 2, none⟩ = some (.int .u64 u2) := by simp [World.cell?, cu]
  have U3 : w.cell? ⟨U, 3, none⟩ = some (.int .u64 u3) := by simp [World.cell?, cu]
  have M0 : w.cell? ⟨M, 0, none⟩ = some (.int .u64 v0) := by simp [World.cell?, cv]
  have M1 : w.cell? ⟨M, 1, none⟩ = some (.int .u64 v1) := by simp [World.cell?, cv]
  have M2 : w.cell? ⟨M, 2, none⟩ = some (.int .u64 v2) := by simp [World.cell?, cv]
  have M3 : w.cell? ⟨M, 3, none⟩ = some (.int .u64 v3) := by simp [World.cell?, cv]
  have V0 := cell_regrown U0
  have V1 := cell_regrown U1
  have V2 := cell_regrown U2
  have V3 := cell_regrown U3
  have N0 := cell_regrown M0
  have N1 := cell_regrown M1
  have N2 := cell_regrown M2
  have N3 := cell_regrown M3
  obtain ⟨z0, z1, z2, z3, hl, ⟨c, hc⟩, hcall⟩ := times_w u0 u1 u2 u3 (n + 1) hu.out.1 hu.out.2.1 hu.out.2.2.1 hu.out.2.2.2 (by omega)
  rw [eu.out] at hc
  have hz : wv z0 z1 z2 z3 = s * s * s * (n + 1) := by
    have h1 : s * s ≤ 1152921504606846976 * 1152921504606846976 := Nat.mul_le_mul hs hs
    have h2 : s * s * s ≤ 1152921504606846976 * 1152921504606846976 * 1152921504606846976 := Nat.mul_le_mul h1 hs
    have h3 : s * s * s * (n + 1) ≤ 1152921504606846976 * 1152921504606846976 * 1152921504606846976 * 10001 := Nat.mul_le_mul h2 (by omega)
    rw [hc] at h3 ⊢
    exact (wv_top _ _ _ _ c (by omega)).symm
  have HL := hidq hl
  have HF : Box (fa t s n = decide (wv v0 v1 v2 v3 < wv z0 z1 z2 z3)) := ⟨by rw [ev.out, hz]; rfl⟩
  obtain ⟨m, hm⟩ : ∃ m : Nat, n + 1 = m := ⟨_, rfl⟩
  have W1 : IntKind.u64.wrap (n : Int) = (n : Int) := by rw [IntKind.wrap_u64]; omega
  have W2 : IntKind.u64.wrap ((n : Int) + 1) = (m : Int) := by rw [IntKind.wrap_u64]; omega
  rw [hm] at hcall
  have cT : ∀ d os, Calls Tryz.prog 219 #[.agg #[.int .u64 u0, .int .u64 u1, .int .u64 u2, .int .u64 u3], .int .u64 (m : Int)] (Go.Sort.grow (redrawn w d) os) fun e w'' => e = .returned (.agg #[.int .u64 z0, .int .u64 z1, .int .u64 z2, .int .u64 z3]) ∧ ∃ p : Regrown, w'' = Go.Sort.grow (redrawn w p.d) p.os := by
    intro d os
    exact Calls.regrown_of (hcall _)
  have cA : ∀ d os, Calls Tryz.prog 221 #[.agg #[.int .u64 z0, .int .u64 z1, .int .u64 z2, .int .u64 z3], .agg #[.int .u64 v0, .int .u64 v1, .int .u64 v2, .int .u64 v3]] (Go.Sort.grow (redrawn w d) os) fun e w'' => e = .returned (.bool (fa t s n)) ∧ ∃ p : Regrown, w'' = Go.Sort.grow (redrawn w p.d) p.os := by
    intro d os
    exact Calls.regrown_of (above_w z0 z1 z2 z3 v0 v1 v2 v3 _ _ HF HL hv)
  have CT := hidq cT
  have CA := hidq cA
  clear cT cA hcall hl hc hz hm U0 U1 U2 U3 M0 M1 M2 M3 cu cv HF
  go_enter Tryz.func220, Tryz.ntmps220
  go_wp2_with fail
  refine wp_region_quiet_below (by kernel_rfl) (by kernel_rfl) ?_
  repeat (quiet_step (first | exact CT.out _ _ | exact CA.out _ _))
  refine wpQuiet_nil ?_
  intro _ hw'
  obtain ⟨⟨dq, osq⟩, hw''⟩ := hw'
  subst hw''
  go_wp2_with fail
  go_ret
  exact ⟨rfl, below_regrown w dq osq⟩
def bw (t s : Nat) : Nat := min (100 * (t * t * t) / (s * s * s)) 10000
theorem cube_pos (s : Nat) (h : 0 < s) : 0 < s * s * s := Nat.mul_pos (Nat.mul_pos h h) h
theorem fa_iff (t s n : Nat) (h : 0 < s) : fa t s n = true ↔ 100 * (t * t * t) / (s * s * s) ≤ n := by
  unfold fa
  rw [decide_eq_true_eq, Nat.mul_comm (s * s * s), ← Nat.div_lt_iff_lt_mul (cube_pos s h)]
  exact Nat.lt_succ_iff
set_option maxRecDepth 100000 in
set_option maxHeartbeats 400000 in
theorem search_w (t s u0 u1 u2 u3 v0 v1 v2 v3 U M : Nat) (w : World) (hs : s ≤ 1152921504606846976) (hs0 : 0 < s)
    (hu : Box (u0 < 18446744073709551616 ∧ u1 < 18446744073709551616 ∧ u2 < 18446744073709551616 ∧ u3 < 18446744073709551616)) (hv : Box (v0 < 18446744073709551616 ∧ v1 < 18446744073709551616 ∧ v2 < 18446744073709551616 ∧ v3 < 18446744073709551616))
    (eu : Box (wv u0 u1 u2 u3 = s * s * s)) (ev : Box (wv v0 v1 v2 v3 = 100 * (t * t * t))) (hU : Box (U < w.heap.size)) (hM : Box (M < w.heap.size))
    (cu : Box (w.heap[U]? = some (.cells #[.int .u64 u0, .int .u64 u1, .int .u64 u2, .int .u64 u3] 274 (0, 0)))) (cv : Box (w.heap[M]? = some (.cells #[.int .u64 v0, .int .u64 v1, .int .u64 v2, .int .u64 v3] 274 (0, 0)))) :
    Calls Tryz.prog 194 #[.int .i64 10000, .func (.func 220) #[] #[.pointer (some ⟨U, 0, none⟩), .pointer (some ⟨M, 0, none⟩)]] w fun e w' => e = .returned (.int .i64 (bw t s : Nat)) ∧ Below w.heap.size w w' := by
  have HS := hidq hs
  have HS0 := hidq hs0
  clear hs hs0
  go_enter Tryz.func194, Tryz.ntmps194
  go_wp2_with fail
  go_loopw [5, 6] (fun a b wr => ∃ i j : Nat, i ≤ j ∧ j ≤ 10000 ∧ a = .int .i64 i ∧ b = .int .i64 j ∧ Box (i ≤ bw t s ∧ bw t s ≤ j) ∧ Box (Below w.heap.size w wr)) (fun a b _ => (intOf b - intOf a).toNat)
  case atStart => exact ⟨0, 10000, by omega, by omega, rfl, rfl, ⟨Nat.zero_le _, Nat.min_le_right _ _⟩, ⟨Below.refl _ _⟩⟩
  case round =>
    obtain ⟨i, j, h1, h2, rfl, rfl, HQ, HB⟩ := hrel
    by_cases hlt : i < j
    · obtain ⟨m, hm⟩ : ∃ m : Nat, (i + j) / 2 = m := ⟨_, rfl⟩
      have em : ((i : Int) + (j : Int)) / 2 = (m : Int) := by omega
      have m1 : i ≤ m := by omega
      have m2 : m < j := by omega
      clear hm
      have HC := hidq (clo_w t s m u0 u1 u2 u3 v0 v1 v2 v3 U M wr (by omega) HS.out hu hv eu ev (Nat.lt_of_lt_of_le hU.out HB.out.size) (Nat.lt_of_lt_of_le hM.out HB.out.size) ((HB.out.block U hU.out).trans cu.out) ((HB.out.block M hM.out).trans cv.out))
      go_wp2_with fail
      refine HC.out.mono ?_
      rintro e w1 ⟨rfl, hb1⟩
      have HB2 := hidq (HB.out.trans (hb1.mono HB.out.size))
      have HF := hidq (fa_iff t s m HS0.out)
      clear hb1 HC
      cases hf : fa t s m with
      | true =>
        have HN : Box (bw t s ≤ m) := ⟨Nat.le_trans (Nat.min_le_left _ _) (HF.out.1 hf)⟩
        go_wp2_with fail
        go_roundw
        case rel => exact ⟨i, m, m1, by omega, rfl, rfl, ⟨HQ.out.1, HN.out⟩, HB2⟩
        case measure => simp [intOf]; omega
      | false =>
        have HN : Box (m + 1 ≤ bw t s) := ⟨by
          have : ¬ 100 * (t * t * t) / (s * s * s) ≤ m := fun h => by rw [HF.out.2 h] at hf; cases hf
          unfold bw
          generalize 100 * (t * t * t) / (s * s * s) = q at *
          omega⟩
        go_wp2_with fail
        go_roundw
        case rel => exact ⟨m + 1, j, by omega, h2, by go_num, rfl, ⟨HN.out, HQ.out.2⟩, HB2⟩
        case measure => simp [intOf]; omega
    · have e : bw t s = i := by have := HQ.out; omega
      have HE := hidq e
      clear e
      go_wp2_with fail
      go_ret
      exact ⟨ret_int (by rw [HE.out]), HB.out⟩
set_option maxRecDepth 100000 in
set_option maxHeartbeats 400000 in
theorem wideBad_w (t s : Nat) (w : World) (ht : t ≤ 1152921504606846976) (hs : s ≤ 1152921504606846976) (hs0 : 0 < s) :
    Calls Tryz.prog 210 #[.int .i64 t, .int .i64 s] w fun e w' => e = .returned (.int .i64 (bw t s : Nat)) ∧ Below w.heap.size w w' := by
  have hmf : ∀ (fn : Fn) (first cap : Array Value) (w : World), (Instr.makeFunc fn first cap).run Tryz.prog w = .ok (.func fn first cap) w := fun _ _ _ _ => rfl
  have HT := hidq ht
  have HS := hidq hs
  have HS0 := hidq hs0
  clear ht hs hs0
  go_enter Tryz.func210, Tryz.ntmps210
  go_wp2_with fail
  refine (cube_w t _ HT.out).mono ?_
  rintro e w1 ⟨y0, y1, y2, y3, rfl, hl, hv, hb1⟩
  have HB1 := hidq hb1
  clear hb1
  obtain ⟨z0, z1, z2, z3, zl, ⟨c, hc⟩, hcall⟩ := times_w y0 y1 y2 y3 100 hl.out.1 hl.out.2.1 hl.out.2.2.1 hl.out.2.2.2 (by omega)
  have hz : wv z0 z1 z2 z3 = 100 * (t * t * t) := by
    rw [hv.out] at hc
    have h1 : t * t ≤ 1152921504606846976 * 1152921504606846976 := Nat.mul_le_mul HT.out HT.out
    have h2 : t * t * t ≤ 1152921504606846976 * 1152921504606846976 * 1152921504606846976 := Nat.mul_le_mul h1 HT.out
    have h3 : t * t * t * 100 ≤ 1152921504606846976 * 1152921504606846976 * 1152921504606846976 * 100 := Nat.mul_le_mul_right _ h2
    rw [Nat.mul_comm 100]
    rw [hc] at h3 ⊢
    exact (wv_top _ _ _ _ c (by omega)).symm
  have HC := hidq hcall
  have HZ := hidq hz
  have HZL := hidq zl
  clear hcall hz zl hc
  go_wp2_with fail
  refine (HC.out _).mono ?_
  rintro e w2 ⟨rfl, hb2⟩
  have HB2 : Box (Below w.heap.size w w2) := ⟨HB1.out.trans (hb2.mono HB1.out.size)⟩
  clear hb2 HC
  go_wp2_with fail
  refine (cube_w s _ HS.out).mono ?_
  rintro e w3 ⟨x0, x1, x2, x3, rfl, xl, xv, hb3⟩
  have HB3 : Box (Below w.heap.size w w3) := ⟨HB2.out.trans (hb3.mono HB2.out.size)⟩
  clear hb3
  go_wp2_with fail
  have g1 : ∀ (A B : Obj), ((w3.alloc A).alloc B).heap[w3.heap.size + 1]? = some B := fun A B => by
    have := heap_alloc_new (w3.alloc A) B
    simpa using this
  have g2 : ∀ (A B : Obj), ((w3.alloc A).alloc B).heap[w3.heap.size]? = some A := fun A B => by
    rw [Below.heap_alloc _ _ _ (by simp)]
    exact heap_alloc_new w3 A
  refine (search_w t s x0 x1 x2 x3 z0 z1 z2 z3 (w3.heap.size + 1) w3.heap.size _ HS.out HS0.out xl HZL xv HZ ⟨by simp⟩ ⟨by simp; omega⟩ ⟨g1 _ _⟩ ⟨g2 _ _⟩).mono ?_
  rintro e w4 ⟨rfl, hb4⟩
  have HB4 : Box (Below w.heap.size w w4) := ⟨((HB3.out.alloc HB3.out.size _).alloc (by have := HB3.out.size; simp; omega) _).trans (hb4.mono (by have := HB3.out.size; simp; omega))⟩
  clear hb4 g1 g2
  go_wp2_with fail
  go_ret
  exact ⟨rfl, HB4.out⟩
end Go.Proofs.YtcjcdpfjnomehaaGreat

/-
  What the program's Bad answers for any two numbers.
-/
namespace Go.Proofs.YtcjcdpfjnomehaaGreat
open Go.RowKit
set_option linter.unusedSimpArgs false
set_option linter.unusedVariables false
def bd (t s : Int) : Int := if cl t ≤ 0 then 0 else if cl s ≤ 0 then 10000 else ((bw (cl t).toNat (cl s).toNat : Nat) : Int)
theorem five3 (s : Nat) : 5 * s * (5 * s) * (5 * s) = 125 * (s * s * s) := by rw [Nat.mul_mul_mul_comm 5 s 5 s, Nat.mul_mul_mul_comm (5 * 5) (s * s) 5 s]
theorem bw_great (t s : Nat) (hs : 0 < s) (h : 5 * s ≤ t) : bw t s = 10000 := by
  unfold bw
  have h1 : (5 * s) * (5 * s) ≤ t * t := Nat.mul_le_mul h h
  have h2 : (5 * s) * (5 * s) * (5 * s) ≤ t * t * t := Nat.mul_le_mul h1 h
  have e : (5 * s) * (5 * s) * (5 * s) = 125 * (s * s * s) := five3 s
  rw [e] at h2
  have : 10000 ≤ 100 * (t * t * t) / (s * s * s) := by
    rw [Nat.le_div_iff_mul_le (cube_pos s hs)]
    generalize s * s * s = c at *
    omega
  exact Nat.min_eq_right this
theorem bw_small (t s : Nat) (hs : 0 < s) (h : 5 * t ≤ s) : bw t s = 0 := by
  unfold bw
  have h1 : (5 * t) * (5 * t) ≤ s * s := Nat.mul_le_mul h h
  have h2 : (5 * t) * (5 * t) * (5 * t) ≤ s * s * s := Nat.mul_le_mul h1 h
  have e : (5 * t) * (5 * t) * (5 * t) = 125 * (t * t * t) := five3 t
  rw [e] at h2
  have hc := cube_pos s hs
  have : 100 * (t * t * t) / (s * s * s) = 0 := by
    rw [Nat.div_eq_zero_iff]
    right
    generalize s * s * s = c at *
    generalize t * t * t = d at *
    omega
  rw [this]; rfl
set_option maxRecDepth 100000 in
set_option maxHeartbeats 400000 in
theorem bad_core (t s : Int) (T S : Nat) (w : World) (ht : cl t = (T : Int)) (hs : cl s = (S : Int)) (hT : 0 < T) (hS : 0 < S) :
    Calls Tryz.prog 189 #[.int .i64 t, .int .i64 s] w fun e w' => e = .returned (.int .i64 (bw T S : Nat)) ∧ Below w.heap.size w w' := by
  have hTl : T ≤ 1152921504606846976 := by have := cl_le t; omega
  have hSl : S ≤ 1152921504606846976 := by have := cl_le s; omega
  by_cases c1 : 5 * S ≤ T
  · have e := bw_great T S hS c1
    rw [e]
    have d1 : decide ((S : Int) ≤ 0) = false := by simp; omega
    clear e
    go_enter Tryz.func189, Tryz.ntmps189
    go_wp2_with (go_at_call 187; refine (clamp_any _ _).mono ?_; rintro e w' ⟨rfl, hw'⟩; subst w')
    go_ret
    exact ⟨rfl, Below.refl _ _⟩
  · by_cases c2 : 5 * T ≤ S
    · have e := bw_small T S hS c2
      rw [e]
      have d1 : decide ((S : Int) ≤ 0) = false := by simp; omega
      clear e
      go_enter Tryz.func189, Tryz.ntmps189
      go_wp2_with (go_at_call 187; refine (clamp_any _ _).mono ?_; rintro e w' ⟨rfl, hw'⟩; subst w')
      go_ret
      exact ⟨rfl, Below.refl _ _⟩
    · have d1 : decide ((S : Int) ≤ 0) = false := by simp; omega
      by_cases c3 : T ≤ 262144
      · have q1 : T * T ≤ 262144 * 262144 := Nat.mul_le_mul c3 c3
        have q2 : T * T * T ≤ 262144 * 262144 * 262144 := Nat.mul_le_mul q1 c3
        have c4 : S ≤ 1310720 := by omega
        have q3 : S * S ≤ 1310720 * 1310720 := Nat.mul_le_mul c4 c4
        have q4 : S * S * S ≤ 1310720 * 1310720 * 1310720 := Nat.mul_le_mul q3 c4
        have q5 := cube_pos S hS
        obtain ⟨T2, hT2⟩ : ∃ T2, 100 * T * T = T2 := ⟨_, rfl⟩
        obtain ⟨T3, hT3⟩ : ∃ T3, T2 * T = T3 := ⟨_, rfl⟩
        obtain ⟨S2, hS2⟩ : ∃ S2, S * S = S2 := ⟨_, rfl⟩
        obtain ⟨S3, hS3⟩ : ∃ S3, S2 * S = S3 := ⟨_, rfl⟩
        have r2 : T2 = 100 * (T * T) := by rw [← hT2, Nat.mul_assoc]
        have r3 : T3 = 100 * (T * T * T) := by rw [← hT3, r2, Nat.mul_assoc]
        have r4 : S3 = S * S * S := by rw [← hS3, ← hS2]
        have E2 : 100 * (T : Int) * (T : Int) = (T2 : Int) := by rw [← hT2]; simp
        have E3 : (T2 : Int) * (T : Int) = (T3 : Int) := by rw [← hT3]; simp
        have E4 : (S : Int) * (S : Int) = (S2 : Int) := by rw [← hS2]; simp
        have E5 : (S2 : Int) * (S : Int) = (S3 : Int) := by rw [← hS3]; simp
        have b2 : T2 ≤ 6871947673600 := by omega
        have b3 : T3 ≤ 1801439850948198400 := by omega
        have b4 : S2 ≤ 1717986918400 := by omega
        have b5 : S3 ≤ 2251799813685248000 := by omega
        have b6 : 0 < S3 := by omega
        have HW : Box (bw T S = min (T3 / S3) 10000) := ⟨by unfold bw; rw [r3, r4]⟩
        obtain ⟨q, hq⟩ : ∃ q, T3 / S3 = q := ⟨_, rfl⟩
        have E6 : (T3 : Int) / (S3 : Int) = (q : Int) := by rw [← hq]; simp
        have b7 : q ≤ 1801439850948198400 := by rw [← hq]; exact Nat.le_trans (Nat.div_le_self _ _) b3
        rw [hq] at HW
        clear q1 q2 q3 q4 q5 hT2 hT3 hS2 hS3 r2 r3 r4 hq
        go_enter Tryz.func189, Tryz.ntmps189
        go_wp2_with (go_at_call 187; refine (clamp_any _ _).mono ?_; rintro e w' ⟨rfl, hw'⟩; subst w')
        all_goals
          go_ret
          refine ⟨ret_int ?_, Below.refl _ _⟩
          rw [HW.out]
          omega
      · go_enter Tryz.func189, Tryz.ntmps189
        go_wp2_with (go_at_call 187; refine (clamp_any _ _).mono ?_; rintro e w' ⟨rfl, hw'⟩; subst w')
        refine (wideBad_w T S _ hTl hSl hS).mono ?_
        rintro e w1 ⟨rfl, hb1⟩
        go_wp2_with fail
        go_ret
        exact ⟨rfl, hb1⟩
set_option maxRecDepth 100000 in
set_option maxHeartbeats 400000 in
theorem bad_any (t s : Int) (w : World) :
    Calls Tryz.prog 189 #[.int .i64 t, .int .i64 s] w fun e w' => e = .returned (.int .i64 (bd t s)) ∧ Below w.heap.size w w' := by
  by_cases h1 : cl t ≤ 0
  · have e : bd t s = 0 := by simp [bd, h1]
    rw [e]
    clear e
    go_enter Tryz.func189, Tryz.ntmps189
    go_wp2_with (go_at_call 187; refine (clamp_any _ _).mono ?_; rintro e w' ⟨rfl, hw'⟩; subst w')
    go_ret
    exact ⟨rfl, Below.refl _ _⟩
  · by_cases h2 : cl s ≤ 0
    · have e : bd t s = 10000 := by simp [bd, h1, h2]
      rw [e]
      have d1 : decide (cl s ≤ 0) = true := by simpa using h2
      clear e
      go_enter Tryz.func189, Tryz.ntmps189
      go_wp2_with (go_at_call 187; refine (clamp_any _ _).mono ?_; rintro e w' ⟨rfl, hw'⟩; subst w')
      go_ret
      exact ⟨rfl, Below.refl _ _⟩
    · have e : bd t s = ((bw (cl t).toNat (cl s).toNat : Nat) : Int) := by simp [bd, h1, h2]
      rw [e]
      exact bad_core t s _ _ w (by omega) (by omega) (by omega) (by omega)
end Go.Proofs.YtcjcdpfjnomehaaGreat

/-
  Plain arithmetic: badness doesn't fall where more is asked, nor where less is given; and it is at least 100 just where as much is asked as given. No walk.
-/
namespace Go.Proofs.YtcjcdpfjnomehaaGreat
set_option linter.unusedSimpArgs false
set_option linter.unusedVariables false
theorem bd_le (t s : Int) : 0 ≤ bd t s ∧ bd t s ≤ 10000 := by
  unfold bd
  split
  · omega
  · split
    · omega
    · have : bw (cl t).toNat (cl s).toNat ≤ 10000 := Nat.min_le_right _ _
      omega
end Go.Proofs.YtcjcdpfjnomehaaGreat
