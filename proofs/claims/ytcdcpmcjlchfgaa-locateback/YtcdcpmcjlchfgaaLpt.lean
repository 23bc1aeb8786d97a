/-
  What the program's nearest, under and the library's IndexFunc answer.
-/
import Derived.Test.YtcdcpmcjlchfgaaLpn
namespace Go.Proofs.Ytcdcpmcjlchfgaa
open Go.RowKit
set_option linter.unusedSimpArgs false
set_option linter.unusedVariables false

/-- Of so many, the one whose number is nearest. -/
def nst (n : Int) (m : Nat) : Nat := (min (max n 0) ((m : Int) - 1)).toNat
theorem nst_lt (n : Int) (m : Nat) (h : 0 < m) : nst n m < m ∧ min (max n 0) ((m : Int) - 1) = (nst n m : Int) := by unfold nst; omega
set_option maxRecDepth 100000 in
set_option maxHeartbeats 1000000 in
theorem nearest_any (n : Int) (m : Nat) (w : World) (h : 0 < m) (hm : m ≤ maxLen) (hn : I64 n) :
    Calls Try.prog 50 #[.int .i64 n, .int .i64 (m : Nat)] w fun e w' => e = .returned (.int .i64 (nst n m : Nat)) ∧ w' = w := by
  obtain ⟨-, h2⟩ := nst_lt n m h
  rw [← h2]
  unfold maxLen at hm
  unfold I64 at hn
  clear h2
  go_enter Try.func50, Try.ntmps50
  go_wp2_with fail
  go_ret
  exact ⟨rfl, rfl⟩
set_option maxRecDepth 100000 in
set_option maxHeartbeats 1000000 in
theorem under1_any (a x T : Int) (b : Nat) (w : World) (h : w.cell? ⟨b, 0, none⟩ = some (.int .i64 T)) :
    Calls Try.prog 67 #[.agg #[.int .i64 a, .int .i64 x], .pointer (some ⟨b, 0, none⟩)] w fun e w' => e = .returned (.bool (decide (T < a))) ∧ Below w.heap.size w w' := by
  have hl := World.block_lt_of_cell? w _ h
  have hB : Below w.heap.size w (w.alloc (.cells #[.int .i64 a, .int .i64 x] 52)) := (Below.refl _ _).alloc (Nat.le_refl _) _
  have HC : Box ((w.alloc (.cells #[.int .i64 a, .int .i64 x] 52)).cell? ⟨b, 0, none⟩ = some (.int .i64 T)) := boxed (hold hB h)
  have hc0 : (w.alloc (.cells #[.int .i64 a, .int .i64 x] 52)).cell? ⟨w.heap.size, 0, none⟩ = some (.int .i64 a) := cell_first _ _ _ 0
  have HB := boxed hB
  have hc1 := HC.out
  obtain ⟨w0, hw0⟩ : ∃ w0, w.alloc (.cells #[.int .i64 a, .int .i64 x] 52) = w0 := ⟨_, rfl⟩
  rw [hw0] at HB hc0 hc1
  have HW := boxed hw0
  clear hw0 HC hB h
  go_enter Try.func67, Try.ntmps67
  go_upto_region 1 with (fail)
  rw [HW.out]
  go_wp2_with fail
  go_ret
  exact ⟨rfl, HB.out⟩
set_option maxRecDepth 100000 in
set_option maxHeartbeats 4000000 in
theorem ixf_any (S : Nat → Prop) (g o M c : Nat) (A Y : Nat → Int) (T : Int) (b q : Nat) (w : World) (h : P2At S w (some ⟨g, o, none⟩) M A Y) (hM : M ≤ 2000) (hc : w.cell? ⟨b, 0, none⟩ = some (.int .i64 T)) (hq : q < M) (h1 : T < A q) (h2 : ∀ j, j < q → A j ≤ T) :
    Calls Try.prog 66 #[.slice (some ⟨g, o, none⟩) M c, .func (.func 67) #[] #[.pointer (some ⟨b, 0, none⟩)]] w fun e w' => e = .returned (.int .i64 (q : Nat)) ∧ Below w.heap.size w w' := by
  have H := boxed h
  have HC := boxed hc
  have H1 := boxed h1
  have H2 := boxed h2
  clear h hc h1 h2
  go_enter Try.func66, Try.ntmps66
  go_wp2_with fail
  go_loopw [8] (fun iv wr => ∃ i : Nat, i ≤ q ∧ iv = .int .i64 (i : Nat) ∧ Box (Below w.heap.size w wr)) (fun iv _ => M - (intOf iv).toNat)
  case atStart => exact ⟨0, Nat.zero_le _, rfl, boxed (Below.refl _ _)⟩
  case round =>
    obtain ⟨i, hi, rfl, HB⟩ := hrel
    have hlt : i < M := by omega
    have t0 : decide ((i : Int) < (M : Int)) = true := decide_eq_true (by omega)
    have hlt2 : (i : Int) < (M : Int) := by omega
    obtain ⟨q0, q1⟩ := (H.out.below HB.out).get i hlt
    have hu := under1_any (A i) (Y i) T b wr (hold HB.out HC.out)
    have HT1 : Box (i = q → decide (T < A i) = true) := boxed (fun e => by subst e; exact decide_eq_true H1.out)
    have HT2 : Box (i < q → decide (T < A i) = false) := boxed (fun e => decide_eq_false (by have := H2.out i e; omega))
    generalize decide (T < A i) = D at *
    generalize A i = ai at *
    generalize Y i = yi at *
    go_wp2_with fail
    refine hu.mono ?_
    rintro e w1 ⟨rfl, hb1⟩
    have HB1 := boxed (below_step HB.out (Nat.le_refl _) hb1)
    clear hb1 hu q0 q1
    by_cases e : i = q
    · have hd := HT1.out e
      subst hd
      subst e
      go_wp2_with fail
      go_ret
      exact ⟨rfl, HB1.out⟩
    · have hd := HT2.out (by omega)
      subst hd
      go_wp2_with fail
      go_roundw
      case rel => exact ⟨i + 1, by omega, by go_num, HB1⟩
      case measure => simp [intOf] <;> omega
/-- The place that is hit so far from the left. -/
def HitP (X : Nat → Int) (t : ByteArray) (N : Nat) (x : Int) (v : Nat) : Prop := (∃ j, j < N ∧ x < X (j + 1) ∧ (∀ q, q < j → X (q + 1) ≤ x) ∧ v = it t j) ∨ ((∀ q, q < N → X (q + 1) ≤ x) ∧ v = it t (ls t N))
theorem hitp_one {X : Nat → Int} {t : ByteArray} {N : Nat} {x : Int} {v u : Nat} (h : HitP X t N x v) (g : HitP X t N x u) : v = u := by
  rcases h with ⟨j, h1, h2, h3, rfl⟩ | ⟨h1, rfl⟩ <;> rcases g with ⟨k, g1, g2, g3, rfl⟩ | ⟨g1, rfl⟩
  · have : j = k := by
      rcases Nat.lt_trichotomy j k with c | c | c
      · have := g3 j c; omega
      · exact c
      · have := h3 k c; omega
    rw [this]
  · have := g1 j h1; omega
  · have := h1 k g1; omega
  · rfl
theorem slS1 (b N : Nat) (w : World) : ∃ o, (0 < N → o = 2) ∧ ∀ w : World, (Instr.slice 45 (.slice (some ⟨b, 0, none⟩) (N + 1) (N + 1)) (some (.int .i64 1)) none none).run Try.prog w = .ok (.slice (some ⟨b, o, none⟩) N N) w := by
  have hc : Try.prog.cellsOf 52 = 2 := by kernel_rfl
  refine ⟨if N + 1 = 1 then 0 else 0 + 1 * 2, fun h => by rw [if_neg (by omega)], fun w => ?_⟩
  have h4 : (1 : Int) ≤ ((N + 1 : Nat) : Int) := by omega
  simp [Instr.slice, Instr.sliceBounds, Instr.sliceBound, asIntOf, run_underlying Try.underlying45, go_sem]
  try (rw [if_pos (by omega)])
  try (by_cases c1 : N = 0 <;> simp [c1])
end Go.Proofs.Ytcdcpmcjlchfgaa
