/-
  What the document's Right answers: may items be a paragraph's?
-/
import Derived.Test.YtkmeeblkckfepabGreatJh
import Derived.Test.YtkmeeblkckfepabGreatJf
import Derived.Lib.QuietBelow
import Derived.BigQuiet
namespace Go.Proofs.YtkmeeblkckfepabGreat
open Go.RowKit
set_option linter.unusedSimpArgs false
set_option linter.unusedVariables false

set_option maxRecDepth 100000 in
set_option maxHeartbeats 4000000 in
theorem refright7_any (S : Nat → Prop) (ao : Option Addr) (n cap : Nat) (I : Nat → Itm) (w : World) (h : ItsAt S w ao n I) (hn : n ≤ maxLen) :
    Calls Tryz.prog 11 #[.slice ao n cap] w fun e w' => e = .returned (.bool (rgt I n)) ∧ Below w.heap.size w w' := by
  unfold maxLen at hn
  have HT := boxed (rgt_iff I n).2
  have HFl := boxed (rgt_no I n)
  generalize rgt I n = V at *
  by_cases h0 : n = 0
  · have HV := boxed (HFl.out (by omega))
    subst h0
    clear h
    go_enter Tryz.func11, Tryz.ntmps11
    go_wp2
    go_ret
    exact ⟨ret_bool HV.out.symm, Below.refl _ _⟩
  have t0 : ((n : Int) == 0) = false := by rw [beq_eq_false_iff_ne]; omega
  by_cases h1 : 262144 < n
  · have HV := boxed (HFl.out (by omega))
    have t1 : decide ((262144 : Int) < (n : Int)) = true := decide_eq_true (by omega)
    clear h h1 h0
    go_enter Tryz.func11, Tryz.ntmps11
    go_wp2
    go_ret
    exact ⟨ret_bool HV.out.symm, Below.refl _ _⟩
  have t1 : decide ((262144 : Int) < (n : Int)) = false := decide_eq_false (by omega)
  obtain ⟨m, hnm⟩ : ∃ m, n - 1 = m := ⟨_, rfl⟩
  rw [hnm] at HT HFl
  have HH := boxed h
  have hm1 : m < n := by omega
  have hm2 : (m : Int) < (n : Int) := by omega
  have e6 : (n : Int) - 1 = (m : Nat) := by omega
  have hn2 : n ≤ 262144 := by omega
  obtain ⟨b, off, e, -, c0, c1, c2, c3, c4, c5, c6, c7, c8⟩ := h m (by omega)
  subst e
  have q2 : b < w.heap.size := World.block_lt_of_cell? w _ c0
  have q4 : b ≠ w.heap.size := by omega
  have hfc := fun w => refforced_any (I m) w
  unfold Itm.val at hfc
  have HN := boxed (And.intro hnm hn2)
  have h00 : (0 : Int) < (n : Int) := by omega
  have h01 : 0 < n := by omega
  clear h h1 h0 hnm hn2
  cases hf : forc (I m)
  · have HV := boxed (HFl.out (by rw [hf]; simp))
    rw [hf] at hfc
    generalize I m = x at *
    go_enter Tryz.func11, Tryz.ntmps11
    go_wp2_with fail
    refine (hfc _).mono ?_
    rintro e w1 ⟨rfl, hb1⟩
    have HB1 := boxed hb1
    clear hb1 hfc
    go_wp2
    go_ret
    exact ⟨ret_bool HV.out.symm, HB1.out⟩
  · rw [hf] at hfc HT HFl
    generalize I m = x at hfc c0 c1 c2 c3 c4 c5 c6 c7 c8
    go_enter Tryz.func11, Tryz.ntmps11
    go_wp2_with fail
    refine (hfc _).mono ?_
    rintro e w1 ⟨rfl, hb1⟩
    have HB1 := boxed hb1
    clear hb1 hfc c0 c1 c2 c3 c4 c5 c6 c7 c8
    obtain ⟨b', off', e, -, -, -, -, -, -, -, -, c7, c8⟩ := (HH.out.below HB1.out) 0 h01
    injection e with e
    injection e with e1 e2
    subst e1; subst e2
    simp only [Nat.zero_mul, Nat.add_zero] at c7 c8
    by_cases hz : (I 0).fr = 0
    rotate_left
    · have HV := boxed (HFl.out (fun ⟨_, _, _, h⟩ => by
        have := h 0 h01
        rw [okI_iff] at this
        exact hz this.1))
      have tz : ((I 0).fr != 0) = true := by simpa using hz
      clear hz
      go_wp2
      go_ret
      exact ⟨ret_bool HV.out.symm, HB1.out⟩
    have HZ := boxed hz
    rw [hz] at c7
    clear hz
    go_wp2
    go_loopw [3] (fun i wr => ∃ k : Nat, k ≤ n ∧ i = .int .i64 (k : Int) ∧ Box (∀ j, j < k → okI I j = true) ∧ Box (Below w.heap.size w wr)) (fun i _ => n - (intOf i).toNat)
    case atStart => exact ⟨0, Nat.zero_le _, rfl, boxed (fun j hj => by omega), HB1⟩
    case round =>
      obtain ⟨k, hk, rfl, HK, HB⟩ := hrel
      by_cases hlt : k < n
      · clear c7 c8
        obtain ⟨b, off, e, -, c0, c1, c2, c3, c4, c5, c6, c7, c8⟩ := (HH.out.below HB.out) k hlt
        injection e with e
        injection e with e1 e2
        subst e1; subst e2
        have t3 : decide ((k : Int) < (n : Int)) = true := decide_eq_true (by omega)
        have HO := boxed (okI_iff I k)
        have HBad : Box (okI I k = false → V = false) := boxed (fun c => HFl.out (fun ⟨_, _, _, h⟩ => by have := h k hlt; rw [c] at this; cases this))
        have HNx : Box (okI I k = true → ∀ j, j < k + 1 → okI I j = true) := boxed (fun c j hj => by
          by_cases d : j = k
          · subst d; exact c
          · exact HK.out j (by omega))
        have HP : Box (∀ j, k = j + 1 → wr.cell? ⟨b, off + j * 9 + 8, none⟩ = some (.int .i64 (pto I k))) := boxed (fun j hj => by
          obtain ⟨b', off', e', -, -, -, -, -, -, -, -, -, c8'⟩ := (HH.out.below HB.out) j (by omega)
          injection e' with e'
          injection e' with e1 e2
          subst e1; subst e2
          rw [c8']
          unfold pto
          rw [if_neg (by omega), hj]
          rfl)
        have HZk : Box (k = 0 → (I k).fr = pto I k) := boxed (fun h => by subst h; exact HZ.out)
        have hone := fun w => refone_any (I k) w
        have HOne : Box (oneI (I k) = true ↔ msd (I k) = true ∧ ofk (I k) = true) := boxed (by simp [oneI])
        unfold Itm.val at hone
        generalize okI I k = OK at *
        generalize pto I k = A at *
        generalize msd (I k) = M at *
        generalize ofk (I k) = T at *
        generalize oneI (I k) = O at *
        generalize I k = x at *
        have HO2 : Box (OK = true ↔ (x.fr = A ∧ x.fr ≤ x.to ∧ x.to ≤ 65536 ∧ O = true)) := boxed (by rw [HO.out, HOne.out])
        clear HO HOne
        have HO := HO2
        clear HO2
        have bad : ¬ (x.fr = A ∧ x.fr ≤ x.to ∧ x.to ≤ 65536 ∧ O = true) → V = false := fun c => HBad.out (by
          cases e : OK with
          | false => rfl
          | true => exact absurd (HO.out.1 e) c)
        replace bad := boxed bad
        have hun : undef = Value.tuple #[] := rfl
        by_cases hk0 : k = 0
        · have HG1 := boxed (HZk.out hk0)
          have k2 : decide (0 < (k : Int)) = false := decide_eq_false (by omega)
          have k3 : decide (0 < k) = false := decide_eq_false (by omega)
          clear hk0 HP HZk
          by_cases g2 : x.to < x.fr
          · have t5 : decide (x.to < x.fr) = true := decide_eq_true g2
            have HV := boxed (bad.out (fun c => by omega))
            clear g2 hone
            go_wp2_with fail
            go_quiet (fail)
            go_wp2
            go_ret
            exact ⟨ret_bool HV.out.symm, HB.out.trans (bel_drewN _ _ _)⟩
          have t5 : decide (x.to < x.fr) = false := decide_eq_false g2
          by_cases g3 : 65536 < x.to
          · have t6 : decide (65536 < x.to) = true := decide_eq_true g3
            have HV := boxed (bad.out (fun c => by omega))
            clear g2 g3 hone
            go_wp2_with fail
            go_quiet (fail)
            go_wp2
            go_ret
            exact ⟨ret_bool HV.out.symm, HB.out.trans (bel_drewN _ _ _)⟩
          have t6 : decide (65536 < x.to) = false := decide_eq_false g3
          have HG := boxed (And.intro HG1.out (And.intro (show x.fr ≤ x.to by omega) (show x.to ≤ 65536 by omega)))
          have HKL := boxed (And.intro hk hlt)
          clear g2 g3
          have vc0 := cell_regrown c0
          have vc1 := cell_regrown c1
          have vc2 := cell_regrown c2
          have vc3 := cell_regrown c3
          have vc4 := cell_regrown c4
          have vc5 := cell_regrown c5
          have vc6 := cell_regrown c6
          have vc7 := cell_regrown c7
          have vc8 := cell_regrown c8
          have CO : Box (∀ d os, Calls Tryz.prog 22 #[.agg #[.int .i64 x.k, .int .i64 x.w, .int .i64 x.st, .int .i64 x.sh, .bool x.fill, .int .i64 x.c, .bool x.flag, .int .i64 x.fr, .int .i64 x.to]] (Go.Sort.grow (redrawn wr d) os) fun e w'' => e = .returned (.bool O) ∧ ∃ p : Regrown, w'' = Go.Sort.grow (redrawn wr p.d) p.os) := boxed (fun d os => Calls.regrown_of (hone _))
          clear hone c0 c1 c2 c3 c4 c5 c6 c7 c8
          go_wp2_with fail
          refine wp_region_quiet_below (by kernel_rfl) (by kernel_rfl) ?_
          repeat (go_big_quiet_step (exact CO.out _ _))
          refine wpQuiet_nil ?_
          intro _ hw'
          obtain ⟨⟨dq, osq⟩, hw''⟩ := hw'
          subst hw''
          have HB6 := boxed (below_step HB.out (Nat.le_refl _) (below_regrown wr dq osq))
          clear vc0 vc1 vc2 vc3 vc4 vc5 vc6 vc7 vc8 CO
          generalize Go.Sort.grow (redrawn wr dq) osq = w5 at *
          cases O
          · have HV := boxed (bad.out (fun c => by cases c.2.2.2))
            go_wp2
            go_ret
            exact ⟨ret_bool HV.out.symm, HB6.out⟩
          · have HN1 := boxed (HNx.out (HO.out.2 ⟨HG.out.1, HG.out.2.1, HG.out.2.2, by simp⟩))
            go_wp2
            go_roundw
            case rel => exact ⟨k + 1, by omega, by omega, HN1⟩
            case measure => simp [intOf]; omega
        · obtain ⟨j, hj⟩ : ∃ j, k = j + 1 := ⟨k - 1, by omega⟩
          have cp := HP.out j hj
          have k2 : decide (0 < (k : Int)) = true := decide_eq_true (by omega)
          have k3 : decide (0 < k) = true := decide_eq_true (by omega)
          have ek : (k : Int) - 1 = (j : Nat) := by omega
          have hjn : j < n := by omega
          have hjn2 : (j : Int) < (n : Int) := by omega
          clear hk0 HP HZk hj
          by_cases g1 : x.fr = A
          rotate_left
          · have t4 : (x.fr != A) = true := by simpa using g1
            have HV := boxed (bad.out (fun c => g1 c.1))
            clear g1 hone
            go_wp2_with fail
            go_quiet (fail)
            go_wp2
            go_ret
            exact ⟨ret_bool HV.out.symm, HB.out.trans (bel_drewN _ _ _)⟩
          have t4 : (x.fr != A) = false := by simpa using g1
          have HG1 := boxed g1
          clear g1
          by_cases g2 : x.to < x.fr
          · have t5 : decide (x.to < x.fr) = true := decide_eq_true g2
            have HV := boxed (bad.out (fun c => by omega))
            clear g2 hone
            go_wp2_with fail
            go_quiet (fail)
            go_wp2
            go_ret
            exact ⟨ret_bool HV.out.symm, HB.out.trans (bel_drewN _ _ _)⟩
          have t5 : decide (x.to < x.fr) = false := decide_eq_false g2
          by_cases g3 : 65536 < x.to
          · have t6 : decide (65536 < x.to) = true := decide_eq_true g3
            have HV := boxed (bad.out (fun c => by omega))
            clear g2 g3 hone
            go_wp2_with fail
            go_quiet (fail)
            go_wp2
            go_ret
            exact ⟨ret_bool HV.out.symm, HB.out.trans (bel_drewN _ _ _)⟩
          have t6 : decide (65536 < x.to) = false := decide_eq_false g3
          have HG := boxed (And.intro HG1.out (And.intro (show x.fr ≤ x.to by omega) (show x.to ≤ 65536 by omega)))
          have HKL := boxed (And.intro hk hlt)
          clear g2 g3
          have ew2 : IntKind.i64.wrap ((j : Nat) : Int) = (j : Nat) := by rw [IntKind.wrap_i64]; omega
          have vc0 := cell_regrown c0
          have vc1 := cell_regrown c1
          have vc2 := cell_regrown c2
          have vc3 := cell_regrown c3
          have vc4 := cell_regrown c4
          have vc5 := cell_regrown c5
          have vc6 := cell_regrown c6
          have vc7 := cell_regrown c7
          have vc8 := cell_regrown c8
          have vcp := cell_regrown cp
          have CO : Box (∀ d os, Calls Tryz.prog 22 #[.agg #[.int .i64 x.k, .int .i64 x.w, .int .i64 x.st, .int .i64 x.sh, .bool x.fill, .int .i64 x.c, .bool x.flag, .int .i64 x.fr, .int .i64 x.to]] (Go.Sort.grow (redrawn wr d) os) fun e w'' => e = .returned (.bool O) ∧ ∃ p : Regrown, w'' = Go.Sort.grow (redrawn wr p.d) p.os) := boxed (fun d os => Calls.regrown_of (hone _))
          clear hone c0 c1 c2 c3 c4 c5 c6 c7 c8 cp
          go_wp2_with fail
          refine wp_region_quiet_below (by kernel_rfl) (by kernel_rfl) ?_
          repeat (go_big_quiet_step (exact CO.out _ _))
          refine wpQuiet_nil ?_
          intro _ hw'
          obtain ⟨⟨dq, osq⟩, hw''⟩ := hw'
          subst hw''
          have HB6 := boxed (below_step HB.out (Nat.le_refl _) (below_regrown wr dq osq))
          clear vc0 vc1 vc2 vc3 vc4 vc5 vc6 vc7 vc8 vcp CO
          generalize Go.Sort.grow (redrawn wr dq) osq = w5 at *
          cases O
          · have HV := boxed (bad.out (fun c => by cases c.2.2.2))
            go_wp2
            go_ret
            exact ⟨ret_bool HV.out.symm, HB6.out⟩
          · have HN1 := boxed (HNx.out (HO.out.2 ⟨HG.out.1, HG.out.2.1, HG.out.2.2, by simp⟩))
            go_wp2
            go_roundw
            case rel => exact ⟨k + 1, by omega, by omega, HN1⟩
            case measure => simp [intOf]; omega
      · have e : k = n := by omega
        subst e
        have HV := boxed (HT.out ⟨h01, HN.out.2, trivial, HK.out⟩)
        go_wp2
        go_ret
        exact ⟨ret_bool HV.out.symm, HB.out⟩
end Go.Proofs.YtkmeeblkckfepabGreat
