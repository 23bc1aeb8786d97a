/-
  What the document's one answers: may an item be?
-/
import Derived.Test.YtkmeeblkckfepabGreatJg
namespace Go.Proofs.YtkmeeblkckfepabGreat
open Go.RowKit
set_option linter.unusedSimpArgs false
set_option linter.unusedVariables false

theorem cell_second (w : World) (A : Obj) (cs : Array Value) (t : TypeId) (i : Nat) : ((w.alloc A).alloc (.cells cs t)).cell? ⟨w.heap.size + 1, i, none⟩ = cs[i]? := by
  have := cell_first (w.alloc A) cs t i
  rw [World.size_alloc] at this
  exact this
/-- The three measures. -/
def m3 (x : Itm) (j : Nat) : Int := if j = 0 then x.w else if j = 1 then x.st else x.sh
def oneI (x : Itm) : Bool := msd x && ofk x
theorem one_bad (x : Itm) (j : Nat) (hj : j < 3) (h : m3 x j < 0 ∨ 68719476736 < m3 x j) : oneI x = false := by
  cases e : oneI x with
  | false => rfl
  | true =>
    simp [oneI, msd, ms] at e
    unfold m3 at h
    repeat' split at h
    all_goals omega
theorem one_more (x : Itm) (h : x.w < x.sh) : oneI x = false := by
  cases e : oneI x with
  | false => rfl
  | true =>
    simp [oneI, msd, ms] at e
    omega
theorem one_ok (x : Itm) (h : ∀ j, j < 3 → ¬ (m3 x j < 0 ∨ 68719476736 < m3 x j)) (h2 : ¬ x.w < x.sh) : msd x = true := by
  have h0 := h 0 (by omega)
  have h1 := h 1 (by omega)
  have h3 := h 2 (by omega)
  simp [m3] at h0 h1 h3
  simp [msd, ms]
  omega

theorem like_fill (x : Itm) (hm : msd x = true) (k2 : x.k = 2) (hf : x.fill = true) : x.like ⟨2, 0, 0, 0, true, 0, false, x.fr, x.to⟩ = ofk x := by
  have hs : (x.w == 0) = true → (x.sh == 0) = true := by
    intro h
    simp [msd, ms] at hm h
    simp
    omega
  unfold ofk
  rw [if_neg (by omega), if_pos k2]
  simp only [Itm.like, k2, hf]
  simp only [beq_self_eq_true, Bool.true_and, Bool.and_true, Bool.not_true, Bool.false_or]
  generalize (x.w == 0) = a at *
  generalize (x.sh == 0) = b at *
  generalize (x.st == 0) = c at *
  generalize (x.c == 0) = d at *
  generalize x.flag = f at *
  cases a <;> cases b <;> cases c <;> cases d <;> cases f <;> simp_all

set_option maxRecDepth 100000 in
set_option maxHeartbeats 4000000 in
theorem refone_any (x : Itm) (w : World) : Calls Tryz.prog 22 #[x.val] w fun e w' => e = .returned (.bool (oneI x)) ∧ Below w.heap.size w w' := by
  have HB1 := boxed (one_bad x)
  have HB2 := boxed (one_more x)
  have HOK : Box (msd x = true → oneI x = ofk x) := boxed (fun h => by unfold oneI; rw [h]; rfl)
  have HM := boxed (one_ok x)
  generalize oneI x = V at *
  unfold Itm.val
  go_enter Tryz.func22, Tryz.ntmps22
  go_wp2
  obtain ⟨W, hW⟩ : ∃ W, (w.alloc (.cells #[.int .i64 x.k, .int .i64 x.w, .int .i64 x.st, .int .i64 x.sh, .bool x.fill, .int .i64 x.c, .bool x.flag, .int .i64 x.fr, .int .i64 x.to] 52)).alloc (.cells #[.int .i64 x.w, .int .i64 x.st, .int .i64 x.sh] 3) = W := ⟨_, rfl⟩
  have HBW : Box (Below w.heap.size w W) := boxed (by rw [← hW]; exact ((Below.refl _ _).alloc (Nat.le_refl _) _).alloc (by simp) _)
  have cS : ∀ j, W.cell? ⟨w.heap.size, j, none⟩ = (#[.int .i64 x.k, .int .i64 x.w, .int .i64 x.st, .int .i64 x.sh, .bool x.fill, .int .i64 x.c, .bool x.flag, .int .i64 x.fr, .int .i64 x.to] : Array Value)[j]? := by
    intro j
    rw [← hW, (Below.alloc (Below.refl (w.heap.size + 1) _) (by simp) _).cell (p := ⟨w.heap.size, j, none⟩) (by simp)]
    exact cell_first _ _ _ _
  have HA : Box (∀ j, j < 3 → W.cell? ⟨w.heap.size + 1, j, none⟩ = some (.int .i64 (m3 x j))) := boxed (by
    intro j hj
    rw [← hW]
    rcases (show j = 0 ∨ j = 1 ∨ j = 2 by omega) with rfl | rfl | rfl
    · exact cell_second _ _ _ _ _
    · exact cell_second _ _ _ _ _
    · exact cell_second _ _ _ _ _)
  have hz : w.heap.size < W.heap.size := by rw [← hW]; simp; omega
  rw [hW]
  clear hW
  go_loop [4] (fun i => ∃ k : Nat, k ≤ 3 ∧ i = .int .i64 (k : Int) ∧ Box (∀ j, j < k → ¬ (m3 x j < 0 ∨ 68719476736 < m3 x j))) (fun i => 3 - (intOf i).toNat)
  case atStart => exact ⟨0, by omega, rfl, boxed (fun j hj => by omega)⟩
  case round =>
    obtain ⟨k, hk, rfl, HK⟩ := hrel
    by_cases hlt : k < 3
    · have c1 := HA.out k hlt
      have t3 : decide ((k : Int) < 3) = true := decide_eq_true (by omega)
      have HX := boxed (HB1.out k hlt)
      have HNx : Box (¬ (m3 x k < 0 ∨ 68719476736 < m3 x k) → ∀ j, j < k + 1 → ¬ (m3 x j < 0 ∨ 68719476736 < m3 x j)) := boxed (fun c j hj => by
        by_cases d : j = k
        · subst d; exact c
        · exact HK.out j (by omega))
      generalize m3 x k = M at *
      by_cases g1 : M < 0
      · have t4 : decide (M < 0) = true := decide_eq_true g1
        have HV := boxed (HX.out (Or.inl g1))
        clear g1
        go_wp2
        go_ret
        exact ⟨ret_bool HV.out.symm, HBW.out⟩
      have t4 : decide (M < 0) = false := decide_eq_false g1
      by_cases g2 : 68719476736 < M
      · have t5 : decide (68719476736 < M) = true := decide_eq_true g2
        have HV := boxed (HX.out (Or.inr g2))
        clear g1 g2
        go_wp2
        go_ret
        exact ⟨ret_bool HV.out.symm, HBW.out⟩
      have t5 : decide (68719476736 < M) = false := decide_eq_false g2
      have HN1 := boxed (HNx.out (by omega))
      clear g1 g2
      go_wp2
      go_round
      case rel => exact ⟨k + 1, by omega, by go_num, HN1⟩
      case measure => simp [intOf]; omega
    · have e : k = 3 := by omega
      subst e
      have HM' := boxed (HM.out HK.out)
      clear HM HK HA HB1
      have d0 := cS 0
      have d1 := cS 1
      have d2 := cS 2
      have d3 := cS 3
      have d4 := cS 4
      have d5 := cS 5
      have d6 := cS 6
      have d7 := cS 7
      have d8 := cS 8
      simp at d0 d1 d2 d3 d4 d5 d6 d7 d8
      clear cS
      by_cases g : x.w < x.sh
      · have HV := boxed (HB2.out g)
        have t6 : decide (x.w < x.sh) = true := decide_eq_true g
        clear g HB2 HM'
        go_wp2
        go_ret
        exact ⟨ret_bool HV.out.symm, HBW.out⟩
      have t6 : decide (x.w < x.sh) = false := decide_eq_false g
      have HMM := boxed (HM'.out (by omega))
      have HV := boxed (HOK.out HMM.out)
      clear g HB2 HM' HOK
      have heq := fun y w => eqlItem x y w
      have hgq := guardItem
      by_cases k1 : x.k = 1
      · have HE := boxed (heq ⟨1, x.w, 0, 0, false, 0, false, x.fr, x.to⟩)
        have HW2 : Box (x.like ⟨1, x.w, 0, 0, false, 0, false, x.fr, x.to⟩ = ofk x) := boxed (by
          unfold ofk
          rw [if_pos k1]
          simp only [Itm.like, k1]
          cases x.fill <;> cases x.flag <;> simp)
        have he := HE.out
        rw [HW2.out, ← HV.out] at he
        simp only [Itm.val] at he
        rw [k1] at d0 he
        clear heq k1 HE HW2
        go_wp2
        go_ret
        exact ⟨rfl, HBW.out⟩
      by_cases k2 : x.k = 2
      · cases hf : x.fill
        · have HW2 : Box (V = ((x.c == 0) && !x.flag)) := boxed (by
            rw [HV.out]
            unfold ofk
            rw [if_neg k1, if_pos k2, hf]
            simp)
          rw [hf] at d4
          rw [k2] at d0
          clear heq k1 k2 HV HMM
          cases hc : (x.c == 0)
          all_goals
            rw [hc] at HW2
            go_wp2
            go_ret
            exact ⟨ret_bool (by rw [HW2.out]; simp), HBW.out⟩
        · have HE := boxed (heq ⟨2, 0, 0, 0, true, 0, false, x.fr, x.to⟩)
          have HW2 : Box (x.like ⟨2, 0, 0, 0, true, 0, false, x.fr, x.to⟩ = ofk x) := boxed (like_fill x HMM.out k2 hf)
          have he := HE.out
          rw [HW2.out, ← HV.out] at he
          simp only [Itm.val] at he
          rw [k2, hf] at he
          rw [k2] at d0
          rw [hf] at d4
          clear heq k1 k2 HE HW2 hf
          go_wp2
          go_ret
          exact ⟨rfl, HBW.out⟩
      by_cases k3 : x.k = 3
      · have HW2 : Box (V = ((x.st == 0) && (x.sh == 0) && !x.fill && decide (-10000 ≤ x.c) && decide (x.c ≤ 10000))) := boxed (by
          rw [HV.out]
          unfold ofk
          rw [if_neg k1, if_neg k2, if_pos k3])
        rw [k3] at d0
        clear heq k1 k2 k3 HV HMM
        cases h1 : (x.st == 0)
        all_goals
          cases h2 : (x.sh == 0)
          all_goals
            cases h3 : x.fill
            all_goals
              by_cases h4 : -10000 ≤ x.c
              all_goals
                rw [h1, h2, h3] at HW2
                rw [h3] at d4
                go_wp2
                go_ret
                exact ⟨ret_bool (by rw [HW2.out]; first | (simp [h4]; done) | (simp [h4]; omega)), HBW.out⟩
      have HW2 : Box (V = false) := boxed (by
        rw [HV.out]
        unfold ofk
        rw [if_neg k1, if_neg k2, if_neg k3])
      have s1 : (x.k == 1) = false := by simpa using k1
      have s2 : (x.k == 2) = false := by simpa using k2
      have s3 : (x.k == 3) = false := by simpa using k3
      clear heq HV
      go_wp2
      go_ret
      exact ⟨ret_bool HW2.out.symm, HBW.out⟩
end Go.Proofs.YtkmeeblkckfepabGreat
