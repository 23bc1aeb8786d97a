/-
  What the program's Right answers: may items be a paragraph's?
-/
import Derived.Test.YtkmeeblkckfepabGreatJc
namespace Go.Proofs.YtkmeeblkckfepabGreat
open Go.RowKit
set_option linter.unusedSimpArgs false
set_option linter.unusedVariables false

theorem okI_iff (I : Nat → Itm) (i : Nat) : okI I i = true ↔ ((I i).fr = pto I i ∧ (I i).fr ≤ (I i).to ∧ (I i).to ≤ 65536 ∧ msd (I i) = true ∧ ofk (I i) = true) := by
  simp [okI, and_assoc]
def rcode (b : Bool) : Int := if b = true then 0 else 70

set_option maxRecDepth 100000 in
set_option maxHeartbeats 4000000 in
theorem right_any (S : Nat → Prop) (ao : Option Addr) (n cap : Nat) (I : Nat → Itm) (w : World) (h : ItsAt S w ao n I) (hn : n ≤ maxLen) :
    Calls Tryz.prog 24 #[.slice ao n cap] w fun e w' => e = .returned (.int .i64 (rcode (rgt I n))) ∧ Below w.heap.size w w' := by
  unfold maxLen at hn
  have HT : Box (0 < n ∧ n ≤ 262144 ∧ forc (I (n - 1)) = true ∧ (∀ i, i < n → okI I i = true) → rcode (rgt I n) = 0) := boxed (fun c => by rw [(rgt_iff I n).2 c]; rfl)
  have HFl : Box (¬ (0 < n ∧ n ≤ 262144 ∧ forc (I (n - 1)) = true ∧ ∀ i, i < n → okI I i = true) → rcode (rgt I n) = 70) := boxed (fun c => by rw [rgt_no I n c]; rfl)
  generalize rcode (rgt I n) = V at *
  by_cases h0 : n = 0
  · have HV := boxed (HFl.out (by omega))
    subst h0
    clear h
    go_enter Tryz.func24, Tryz.ntmps24
    go_wp2
    go_ret
    exact ⟨ret_int HV.out.symm, Below.refl _ _⟩
  have t0 : ((n : Int) == 0) = false := by rw [beq_eq_false_iff_ne]; omega
  by_cases h1 : 262144 < n
  · have HV := boxed (HFl.out (by omega))
    have t1 : decide ((262144 : Int) < (n : Int)) = true := decide_eq_true (by omega)
    clear h h1 h0
    go_enter Tryz.func24, Tryz.ntmps24
    go_wp2
    go_ret
    exact ⟨ret_int HV.out.symm, Below.refl _ _⟩
  have t1 : decide ((262144 : Int) < (n : Int)) = false := decide_eq_false (by omega)
  obtain ⟨m, hnm⟩ : ∃ m, n - 1 = m := ⟨_, rfl⟩
  rw [hnm] at HT HFl
  have HH := boxed h
  have hm1 : m < n := by omega
  have hm2 : (m : Int) < (n : Int) := by omega
  have e6 : (n : Int) - 1 = (m : Nat) := by omega
  have hn2 : n ≤ 262144 := by omega
  obtain ⟨b, off, e, -, c0, c1, c2, c3, c4, c5, c6, c7, c8⟩ := h m (by omega)
  subst e
  have q2 : b < w.heap.size := World.block_lt_of_cell? w _ c0
  have q4 : b ≠ w.heap.size := by omega
  have hfc := fun w => forced_any (I m) w
  unfold Itm.val at hfc
  have HN := boxed (And.intro hnm hn2)
  clear h h1 h0 hnm hn2
  cases hf : forc (I m)
  · have HV := boxed (HFl.out (by rw [hf]; simp))
    rw [hf] at hfc
    generalize I m = x at *
    go_enter Tryz.func24, Tryz.ntmps24
    go_wp2_with fail
    refine (hfc _).mono ?_
    rintro e w1 ⟨rfl, hb1⟩
    have HB1 := boxed hb1
    clear hb1 hfc
    go_wp2
    go_ret
    exact ⟨ret_int HV.out.symm, HB1.out⟩
  · rw [hf] at hfc HT HFl
    generalize I m = x at hfc c0 c1 c2 c3 c4 c5 c6 c7 c8
    go_enter Tryz.func24, Tryz.ntmps24
    go_wp2_with fail
    refine (hfc _).mono ?_
    rintro e w1 ⟨rfl, hb1⟩
    have HB1 := boxed hb1
    clear hb1 hfc c0 c1 c2 c3 c4 c5 c6 c7 c8
    go_wp2
    go_loopw [3, 5, 26] (fun a _ i wr => ∃ k : Nat, k ≤ n ∧ a = .int .i64 (pto I k) ∧ i = .int .i64 (k : Int) ∧ Box (∀ j, j < k → okI I j = true) ∧ Box (Below w.heap.size w wr)) (fun _ _ i _ => n - (intOf i).toNat)
    case atStart => exact ⟨0, Nat.zero_le _, rfl, rfl, boxed (fun j hj => by omega), HB1⟩
    case round =>
      obtain ⟨k, hk, rfl, rfl, HK, HB⟩ := hrel
      by_cases hlt : k < n
      · obtain ⟨b, off, e, -, c0, c1, c2, c3, c4, c5, c6, c7, c8⟩ := (HH.out.below HB.out) k hlt
        injection e with e
        injection e with e1 e2
        subst e1; subst e2
        have q5 : b < wr.heap.size := World.block_lt_of_cell? wr _ c0
        have q6 : b ≠ wr.heap.size := by omega
        have t3 : decide ((k : Int) < (n : Int)) = true := decide_eq_true (by omega)
        have HP : Box (pto I (k + 1) = (I k).to) := boxed (by unfold pto; simp)
        have HO := boxed (okI_iff I k)
        have HBad : Box (okI I k = false → V = 70) := boxed (fun c => HFl.out (fun ⟨_, _, _, h⟩ => by have := h k hlt; rw [c] at this; cases this))
        have HNx : Box (okI I k = true → ∀ j, j < k + 1 → okI I j = true) := boxed (fun c j hj => by
          by_cases d : j = k
          · subst d; exact c
          · exact HK.out j (by omega))
        have hms := fun w => measured_any (I k) w
        have hok := fun w => ofKind_any (I k) w
        unfold Itm.val at hms hok
        generalize okI I k = OK at *
        generalize pto I k = A at *
        generalize msd (I k) = M at *
        generalize ofk (I k) = T at *
        generalize I k = x at *
        have bad : ¬ (x.fr = A ∧ x.fr ≤ x.to ∧ x.to ≤ 65536 ∧ M = true ∧ T = true) → V = 70 := fun c => HBad.out (by
          cases e : OK with
          | false => rfl
          | true => exact absurd (HO.out.1 e) c)
        replace bad := boxed bad
        by_cases g1 : x.fr = A
        rotate_left
        · have t4 : (x.fr != A) = true := by simpa using g1
          have HV := boxed (bad.out (fun c => g1 c.1))
          clear g1 hms hok
          go_wp2
          go_ret
          exact ⟨ret_int HV.out.symm, by have hb := HB.out; have hz := HB.out.size; go_grown⟩
        have t4 : (x.fr != A) = false := by simpa using g1
        by_cases g2 : x.to < x.fr
        · have t5 : decide (x.to < x.fr) = true := decide_eq_true g2
          have HV := boxed (bad.out (fun c => by omega))
          clear g1 g2 hms hok
          go_wp2
          go_ret
          exact ⟨ret_int HV.out.symm, by have hb := HB.out; have hz := HB.out.size; go_grown⟩
        have t5 : decide (x.to < x.fr) = false := decide_eq_false g2
        by_cases g3 : 65536 < x.to
        · have t6 : decide (65536 < x.to) = true := decide_eq_true g3
          have HV := boxed (bad.out (fun c => by omega))
          clear g1 g2 g3 hms hok
          go_wp2
          go_ret
          exact ⟨ret_int HV.out.symm, by have hb := HB.out; have hz := HB.out.size; go_grown⟩
        have t6 : decide (65536 < x.to) = false := decide_eq_false g3
        have HG := boxed (And.intro g1 (And.intro (show x.fr ≤ x.to by omega) (show x.to ≤ 65536 by omega)))
        clear g1 g2 g3
        have HB2 : Box (Below w.heap.size w (wr.alloc (.cells #[.int .i64 x.k, .int .i64 x.w, .int .i64 x.st, .int .i64 x.sh, .bool x.fill, .int .i64 x.c, .bool x.flag, .int .i64 x.fr, .int .i64 x.to] 52))) := boxed (HB.out.alloc HB.out.size _)
        have hx : ∀ (W : World), Below (wr.heap.size + 1) (wr.alloc (.cells #[.int .i64 x.k, .int .i64 x.w, .int .i64 x.st, .int .i64 x.sh, .bool x.fill, .int .i64 x.c, .bool x.flag, .int .i64 x.fr, .int .i64 x.to] 52)) W → ∀ j, W.cell? ⟨wr.heap.size, j, none⟩ = (#[.int .i64 x.k, .int .i64 x.w, .int .i64 x.st, .int .i64 x.sh, .bool x.fill, .int .i64 x.c, .bool x.flag, .int .i64 x.fr, .int .i64 x.to] : Array Value)[j]? := by
          intro W hb j
          rw [hb.cell (p := ⟨wr.heap.size, j, none⟩) (by simp)]
          exact cell_first _ _ _ _
        replace hx := boxed hx
        cases M
        · have HV := boxed (bad.out (fun c => by cases c.2.2.2.1))
          go_wp2_with fail
          refine (hms _).mono ?_
          rintro e w2 ⟨rfl, hb2⟩
          have HB3 := boxed (below_step HB2.out (Nat.le_refl _) hb2)
          clear hb2 hms
          go_wp2
          go_ret
          exact ⟨ret_int HV.out.symm, HB3.out⟩
        · go_wp2_with fail
          refine (hms _).mono ?_
          rintro e w2 ⟨rfl, hb2⟩
          have HB3 := boxed (below_step HB2.out (Nat.le_refl _) hb2)
          have hx2 := hx.out w2 (by simpa using hb2)
          have hz2 : wr.heap.size < w2.heap.size := by have := hb2.size; simp at this; omega
          have d0 := hx2 0
          have d1 := hx2 1
          have d2 := hx2 2
          have d3 := hx2 3
          have d4 := hx2 4
          have d5 := hx2 5
          have d6 := hx2 6
          have d7 := hx2 7
          have d8 := hx2 8
          simp at d0 d1 d2 d3 d4 d5 d6 d7 d8
          clear hms c0 c1 c2 c3 c4 c5 c6 c7 c8 hx2
          go_wp2_with fail
          refine (hok _).mono ?_
          rintro e w3 ⟨rfl, hb3⟩
          have HB4 := boxed (below_step HB3.out (Nat.le_refl _) hb3)
          have d9 := hold hb3 d8
          clear hok hb2 hb3
          cases T
          · have HV := boxed (bad.out (fun c => by cases c.2.2.2.2))
            go_wp2
            go_ret
            exact ⟨ret_int HV.out.symm, HB4.out⟩
          · have HN1 := boxed (HNx.out (HO.out.2 ⟨HG.out.1, HG.out.2.1, HG.out.2.2, by simp, by simp⟩))
            go_wp2
            go_roundw
            case rel => exact ⟨k + 1, by omega, by rw [HP.out], by go_num, HN1, HB4⟩
            case measure => simp [intOf]; omega
      · have e : k = n := by omega
        subst e
        have HV := boxed (HT.out ⟨by omega, HN.out.2, trivial, HK.out⟩)
        go_wp2
        go_ret
        exact ⟨ret_int HV.out.symm, HB.out⟩
end Go.Proofs.YtkmeeblkckfepabGreat
