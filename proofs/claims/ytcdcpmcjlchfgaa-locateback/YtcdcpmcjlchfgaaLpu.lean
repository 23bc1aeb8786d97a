/-
  What the program's under answers.
-/
import Derived.Test.YtcdcpmcjlchfgaaLpt
import Derived.Deep.MidRow
namespace Go.Proofs.Ytcdcpmcjlchfgaa
open Go.RowKit
set_option linter.unusedSimpArgs false
set_option linter.unusedVariables false

/-- The first stop behind where what is seen last begins. -/
theorem ls_first (t : ByteArray) (N : Nat) (hN : Right t N) : ls t N < N + 1 ∧ lsAt t N < (it t (ls t N) : Int) ∧ ∀ j, j < ls t N → (it t j : Int) ≤ lsAt t N := by
  have hl := ls_le t N
  refine ⟨by omega, ?_, ?_⟩
  · unfold lsAt
    by_cases z : ls t N = 0
    · rw [if_pos z]; omega
    · rw [if_neg z]
      have := it_mono t N hN.1.1 (ls t N - 1) (ls t N) (by omega) hl
      omega
  · intro j hj
    unfold lsAt
    rw [if_neg (by omega)]
    by_cases c : j = ls t N - 1
    · rw [c]; exact Int.le_refl _
    · have := it_mono t N hN.1.1 j (ls t N - 1) (by omega) (by omega)
      omega
set_option maxRecDepth 100000 in
set_option maxHeartbeats 8000000 in
theorem under_any {B : Nat} {w : World} {tb n : Nat} {G : Nat → Sty} (h : TabAt B w tb n G) (hg : ∀ i, i < n → flt (G i) = 0) (S : Nat → Prop) (x : Lne) (hp : P2At S w x.ra x.rn x.L x.Y) (hrn : x.rn ≤ maxLen ∧ x.rn ≤ x.rc) (N : Nat) (hN : Right x.tx N) (hs : x.tx.size ≤ 1000) (X0 : Int) :
    Calls Try.prog 51 #[.pointer (some ⟨tb, 0, none⟩), x.val, .int .i64 X0] w fun e w' => (∃ v : Nat, e = .returned (.int .i64 (v : Nat)) ∧ v ≤ 1000 ∧ HitP (fun k => xs (ofS G n) x.L x.Y x.rn x.num x.den x.tx N k) x.tx N X0 v) ∧ Below w.heap.size w w' := by
  have hmf : ∀ (fn : Fn) (first cap : Array Value) (w : World), (Instr.makeFunc fn first cap).run Try.prog w = .ok (.func fn first cap) w := fun _ _ _ _ => rfl
  obtain ⟨w0, hw0, hB0, hz0, hLn⟩ := lnat_new w x
  have hst := stops_any (h.below hB0) hg S x (hp.below hB0) hrn N hN hs
  have HLS := boxed (fun W => lastseen_any x.tx W (by unfold maxLen; omega) N hN)
  have HLF := boxed (ls_first x.tx N hN)
  have HIL := boxed (fun k => Nat.le_trans (it_le x.tx k) hs)
  have HW0 := boxed hw0
  have HB0 := boxed hB0
  have HLn := boxed hLn
  obtain ⟨c0, c1, c2, c3, c4, c5, c6, c7, c8⟩ := (hLn w0 (Below.refl _ _)).cells
  have hNs : N ≤ 1000 := by have := cnt_le x.tx N hN.1; have := it_le x.tx N; omega
  clear h hw0 hB0 hLn hp hrn hN hg
  generalize (fun k => xs (ofS G n) x.L x.Y x.rn x.num x.den x.tx N k) = X at *
  generalize lsAt x.tx N = LA at *
  unfold Lne.val at *
  go_enter Try.func51, Try.ntmps51
  go_upto_region 1 with (fail)
  rw [HW0.out]
  go_wp2_with fail
  refine hst.mono ?_
  rintro e w1 ⟨⟨mb, rfl, hp1⟩, hb1⟩
  have HP1 := boxed hp1
  have HB1 := boxed (below_step HB0.out (Nat.le_refl _) hb1)
  have HLn1 := boxed (fun W (hb : Below w1.heap.size w1 W) => HLn.out W (below_step hb1 (Nat.le_refl _) hb))
  clear hst hp1 hb1 c0 c1 c2 c3 c4 c5 c6 c7 c8 HLn
  obtain ⟨o, ho, hsl⟩ := slS1 mb N w1
  have HTl : Box (∀ W, Below w1.heap.size w1 W → ∀ j, j < N → W.cell? ⟨mb, o + j * 2, none⟩ = some (.int .i64 (it x.tx (j + 1) : Int)) ∧ W.cell? ⟨mb, o + j * 2 + 1, none⟩ = some (.int .i64 (X (j + 1)))) := boxed (fun W hb j hj => by
    obtain ⟨q0, q1⟩ := (HP1.out.below hb).get (j + 1) (by omega)
    have e := ho (by omega)
    subst e
    rw [show 0 + (j + 1) * 2 = 2 + j * 2 by omega] at q0 q1
    exact ⟨q0, q1⟩)
  clear ho
  go_wp2_with fail
  go_loopw [18] (fun iv wr => ∃ i : Nat, i ≤ N ∧ iv = .int .i64 (i : Nat) ∧ Box (∀ q, q < i → X (q + 1) ≤ X0) ∧ Box (Below w1.heap.size w1 wr)) (fun iv _ => N - (intOf iv).toNat)
  case atStart => exact ⟨0, Nat.zero_le _, rfl, boxed (fun q hq => by omega), boxed (Below.refl _ _)⟩
  case round =>
    obtain ⟨i, hi, rfl, HQ, HB⟩ := hrel
    by_cases hlt : i < N
    · have t0 : decide ((i : Int) < (N : Int)) = true := decide_eq_true (by omega)
      have hlt2 : (i : Int) < (N : Int) := by omega
      obtain ⟨q0, q1⟩ := HTl.out _ HB.out i hlt
      obtain ⟨p0, p1⟩ := (HP1.out.below HB.out).get i (by omega)
      simp only [Nat.zero_add] at p0 p1
      have HBn := boxed (fun o => HB.out.alloc HB.out.size o)
      have hmbl : mb < wr.heap.size := World.block_lt_of_cell? wr _ q0
      have hiM : i < N + 1 := by omega
      have hiM2 : (i : Int) < ((N + 1 : Nat) : Int) := by omega
      have hiM3 : (i : Int) < (N : Int) + 1 := by omega
      have hit := HIL.out i
      by_cases cx : X0 < X (i + 1)
      · have tx : decide (X0 < X (i + 1)) = true := decide_eq_true cx
        have HFin : Box (HitP X x.tx N X0 (it x.tx i)) := boxed (Or.inl ⟨i, hlt, cx, HQ.out, rfl⟩)
        have HIT := boxed hit
        clear cx
        generalize X (i + 1) = Xi at *
        generalize it x.tx (i + 1) = Ai at *
        generalize it x.tx i = Aj at *
        go_wp2_with fail
        go_ret
        exact ⟨⟨_, rfl, HIT.out, HFin.out⟩, below_step HB1.out (Nat.le_refl _) (HBn.out _)⟩
      · have tx : decide (X0 < X (i + 1)) = false := decide_eq_false cx
        have HQ2 : Box (∀ q, q < i + 1 → X (q + 1) ≤ X0) := boxed (fun q hq => by
          by_cases c : q = i
          · subst c; omega
          · exact HQ.out q (by omega))
        clear cx
        generalize X (i + 1) = Xi at *
        generalize it x.tx (i + 1) = Ai at *
        go_wp2_with fail
        go_roundw
        case rel => exact ⟨i + 1, by omega, by go_num, HQ2, boxed (HBn.out _)⟩
        case measure => simp [intOf] <;> omega
    · obtain rfl : i = N := by omega
      have t0 : decide ((i : Int) < (i : Int)) = false := decide_eq_false (by omega)
      obtain ⟨c0, -⟩ := (HLn1.out _ HB.out).cells
      have HFin : Box (HitP X x.tx i X0 (it x.tx (ls x.tx i))) := boxed (Or.inr ⟨HQ.out, rfl⟩)
      obtain ⟨f1, f2, f3⟩ := HLF.out
      have hit := HIL.out (ls x.tx i)
      have HF3 := boxed f3
      clear HLF HTl f3
      go_wp2_with fail
      refine (HLS.out _).mono ?_
      rintro e w2 ⟨rfl, hb2⟩
      have HB2 := boxed (below_step HB.out (Nat.le_refl _) hb2)
      have L3 := laid1 w2 (.cells #[.int .i64 LA] 3)
      have HB3 := boxed (below_step HB2.out (Nat.le_refl _) L3.2.1)
      have hk3 : (w2.alloc (.cells #[.int .i64 LA] 3)).cell? ⟨w2.heap.size, 0, none⟩ = some (.int .i64 LA) := cell_first _ _ _ 0
      have hix := ixf_any _ mb 0 (i + 1) (i + 1) (fun k => (it x.tx k : Int)) X LA w2.heap.size (ls x.tx i) _ (HP1.out.below HB3.out) (by omega) hk3 f1 f2 HF3.out
      obtain ⟨w3, hw3⟩ : ∃ w3, w2.alloc (.cells #[.int .i64 LA] 3) = w3 := ⟨_, rfl⟩
      rw [hw3] at HB3 hix
      have HW3 := boxed hw3
      clear hb2 HLS L3 hk3 hw3 f2
      go_upto_region 9 with (fail)
      rw [HW3.out]
      go_wp2_with fail
      refine hix.mono ?_
      rintro e w4 ⟨rfl, hb4⟩
      have HB4 := boxed (below_step HB3.out (Nat.le_refl _) hb4)
      obtain ⟨p0, p1⟩ := (HP1.out.below HB4.out).get (ls x.tx i) f1
      simp only [Nat.zero_add] at p0 p1
      have HIT := boxed hit
      have f12 : (ls x.tx i : Int) < ((i + 1 : Nat) : Int) := by omega
      have f13 : (ls x.tx i : Int) < (i : Int) + 1 := by omega
      clear hb4 hix
      generalize it x.tx (ls x.tx i) = Aj at *
      generalize ls x.tx i = lz at *
      go_wp2_with fail
      go_ret
      exact ⟨⟨_, rfl, HIT.out, HFin.out⟩, below_step HB1.out (Nat.le_refl _) HB4.out⟩
end Go.Proofs.Ytcdcpmcjlchfgaa
