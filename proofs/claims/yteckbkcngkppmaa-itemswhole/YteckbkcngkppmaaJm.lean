/-
  What the document's StyleAt and Check answer.
-/
import Derived.Test.YteckbkcngkppmaaJl
namespace Go.Proofs.Yteckbkcngkppmaa
open Go.RowKit
set_option linter.unusedSimpArgs false
set_option linter.unusedVariables false

set_option maxRecDepth 100000 in
set_option maxHeartbeats 1000000 in
theorem styleAt_any (ao : Option Addr) (m cap : Nat) (Ln Ys : Nat → Int) (w : World) (hr : RunsAt w ao m Ln Ys) (hm : m ≤ maxLen) (hl : ∀ j, j < m → 0 ≤ Ln j) (a : Int) (ha : 0 ≤ a ∧ a ≤ 1048576) :
    Calls Try.prog 19 #[.slice ao m cap, .int .i64 a] w fun e w' => e = .returned (.int .i64 (sta Ln Ys m 0 a)) ∧ w' = w := by
  unfold maxLen at hm
  have HR := boxed hr
  have HL := boxed hl
  obtain ⟨V, hV⟩ : ∃ V, sta Ln Ys m 0 a = V := ⟨_, rfl⟩
  rw [hV]
  have HV := boxed hV
  clear hr hl hV
  go_enter Try.func19, Try.ntmps19
  go_wp2
  go_loop [1, 5] (fun x i => ∃ k : Nat, k ≤ m ∧ i = .int .i64 (k : Int) ∧ x = .int .i64 (a - pre Ln k) ∧ (0 ≤ a - pre Ln k ∧ a - pre Ln k ≤ a) ∧ Box (sta Ln Ys (m - k) k (a - pre Ln k) = V)) (fun _ i => m - (intOf i).toNat)
  case atStart => exact ⟨0, Nat.zero_le _, rfl, by simp [pre], by simp [pre]; omega, boxed (by simpa [pre] using HV.out)⟩
  case round =>
    obtain ⟨k, hk, rfl, rfl, hin, HS⟩ := hrel
    obtain ⟨hi1, hi2⟩ := hin
    by_cases hlt : k < m
    · obtain ⟨hI, b, off, e, c0, c1⟩ := HR.out k hlt
      subst e
      have hll := HL.out k hlt
      have HE : Box (V = if a - pre Ln k < Ln k then Ys k else sta Ln Ys (m - (k + 1)) (k + 1) (a - pre Ln (k + 1))) := boxed (by
        have := HS.out
        rw [show m - k = (m - (k + 1)) + 1 by omega] at this
        simp only [sta] at this
        rw [← this]
        split
        · rfl
        · rw [show a - pre Ln k - Ln k = a - pre Ln (k + 1) by simp only [pre]; omega])
      have HP : Box (a - pre Ln (k + 1) = a - pre Ln k - Ln k) := boxed (by simp only [pre]; omega)
      have t3 : decide ((k : Int) < (m : Int)) = true := decide_eq_true (by omega)
      generalize a - pre Ln k = A at *
      generalize Ln k = l at *
      generalize Ys k = y at *
      by_cases g : A < l
      · have t4 : decide (A < l) = true := decide_eq_true g
        have HV2 : Box (V = y) := boxed (by rw [HE.out, if_pos g])
        clear g hI
        go_wp2
        go_ret
        exact ⟨ret_int HV2.out.symm, rfl⟩
      · have t4 : decide (A < l) = false := decide_eq_false g
        have HV2 : Box (sta Ln Ys (m - (k + 1)) (k + 1) (a - pre Ln (k + 1)) = V) := boxed (by rw [HE.out, if_neg g])
        have hA : 0 ≤ A - l ∧ A - l ≤ a := by omega
        obtain ⟨hA1, hA2⟩ := hA
        clear g hI
        go_wp2
        go_round
        case rel => exact ⟨k + 1, by omega, by go_num, by first | (rw [HP.out]; done) | (rw [HP.out]; go_num), by rw [HP.out]; omega, HV2⟩
        case measure => simp [intOf]; omega
    · have e : k = m := by omega
      subst e
      have HV2 : Box (V = 0) := boxed (by rw [← HS.out]; simp [sta])
      go_wp2
      go_ret
      exact ⟨ret_int HV2.out.symm, rfl⟩

set_option maxRecDepth 100000 in
set_option maxHeartbeats 4000000 in
theorem refcheck7_any (so : Option Addr) (n sc : Nat) (w : World) (hn : n ≤ maxLen) (t : ByteArray) (N : Nat) (hN : Cnt t N) (hs : t.size ≤ 1048576) (ao : Option Addr) (m cap : Nat) (Ln Ys : Nat → Int) (hr : RunsAt w ao m Ln Ys) (hm : m ≤ maxLen) :
    Calls Try.prog 29 #[.slice so n sc, .string t, .slice ao m cap] w fun e w' => e = .returned (.int .i64 (ck t N n m Ln Ys)) ∧ Below w.heap.size w w' := by
  have hck := refright_any t w hs N hN
  by_cases hb : badAt t N < 0
  rotate_left
  · have HV : Box (ck t N n m Ln Ys = 20) := boxed (by unfold ck; rw [if_neg hb])
    rw [decide_eq_false hb] at hck
    generalize ck t N n m Ln Ys = V at *
    clear hr
    go_enter Try.func29, Try.ntmps29
    go_wp2_with fail
    refine hck.mono ?_
    rintro e w1 ⟨rfl, hb1⟩
    have HB1 := boxed hb1
    clear hb1
    go_wp2
    go_ret
    exact ⟨ret_int HV.out.symm, HB1.out⟩
  rw [decide_eq_true hb] at hck
  have hR := right_of t N hN hb
  have HC : Box (ck t N n m Ln Ys = if t.size = 0 ∨ early t = true then 70 else if crs t N n Ln Ys m = 0 then (if pre Ln m = (t.size : Int) then 0 else 70) else crs t N n Ln Ys m) := boxed (by unfold ck; rw [if_pos hb])
  generalize ck t N n m Ln Ys = V at *
  by_cases h0 : t.size = 0
  · have HV : Box (V = 70) := boxed (by rw [HC.out, if_pos (Or.inl h0)])
    obtain rfl := is_empty t h0
    clear hr
    go_enter Try.func29, Try.ntmps29
    go_wp2_with fail
    refine hck.mono ?_
    rintro e w1 ⟨rfl, hb1⟩
    have HB1 := boxed hb1
    clear hb1
    go_wp2
    go_ret
    exact ⟨ret_int HV.out.symm, HB1.out⟩
  have hE := ne_isEmpty t h0
  have HR := boxed hr
  have HBT := boxed (fun a w => between_any t a w hs N hN)
  unfold maxLen at hm hn
  clear hr hb hN
  go_enter Try.func29, Try.ntmps29
  go_wp2_with fail
  refine hck.mono ?_
  rintro e w1 ⟨rfl, hb1⟩
  have HB1 := boxed hb1
  clear hck hb1
  go_wp2
  go_loop [7] (fun i => ∃ k : Nat, (k < t.size) ∧ i = .int .i64 (k : Int) ∧ Box (∀ j, j < k → bt t j ≠ 10)) (fun i => t.size - (intOf i).toNat)
  case atStart => exact ⟨0, by omega, rfl, boxed (fun j hj => by omega)⟩
  case round =>
    obtain ⟨k, hk, rfl, HK⟩ := hrel
    by_cases hlt : k + 1 < t.size
    · have hx := idx t k (by omega)
      have t3 : decide ((k : Int) + 1 < (t.size : Int)) = true := decide_eq_true (by omega)
      have hbl := bt_lt t k (by omega)
      by_cases g : bt t k = 10
      · have HV : Box (V = 70) := boxed (by rw [HC.out, if_pos (Or.inr ((early_iff t).2 ⟨k, by omega, g⟩))])
        rw [g] at hx
        clear g hbl
        go_wp2
        go_ret
        exact ⟨ret_int HV.out.symm, HB1.out⟩
      · have HK2 : Box (∀ j, j < k + 1 → bt t j ≠ 10) := boxed (fun j hj => by
          by_cases d : j = k
          · subst d; exact g
          · exact HK.out j (by omega))
        have tg : ((bt t k : Int) == 10) = false := by simp; omega
        generalize bt t k = X at *
        clear g
        go_wp2
        go_round
        case rel => exact ⟨k + 1, by omega, by go_num, HK2⟩
        case measure => simp [intOf]; omega
    · have t3 : decide ((k : Int) + 1 < (t.size : Int)) = false := decide_eq_false (by omega)
      have he : early t = false := by
        cases e : early t with
        | false => rfl
        | true =>
          obtain ⟨i, h1, h2⟩ := (early_iff t).1 e
          exact absurd h2 (HK.out i (by omega))
      have HC2 : Box (V = if crs t N n Ln Ys m = 0 then (if pre Ln m = (t.size : Int) then 0 else 70) else crs t N n Ln Ys m) := boxed (by rw [HC.out, if_neg (by rintro (c | c); exact h0 c; rw [he] at c; cases c)])
      clear he HC HK hlt
      go_wp2
      go_loopw [8, 9] (fun a i wr => ∃ k : Nat, k ≤ m ∧ a = .int .i64 (pre Ln k) ∧ i = .int .i64 (k : Int) ∧ Box (crs t N n Ln Ys k = 0) ∧ Box (Below w.heap.size w wr)) (fun _ i _ => m - (intOf i).toNat)
      case atStart => exact ⟨0, Nat.zero_le _, rfl, rfl, boxed rfl, HB1⟩
      case round =>
        clear t3
        obtain ⟨k, hk, rfl, rfl, H0, HB⟩ := hrel
        have hpi := pre_in t N n Ln Ys k H0.out
        obtain ⟨hp1, hp2⟩ := hpi
        by_cases hlt : k < m
        · obtain ⟨hI, b, off, e, c0, c1⟩ := (HR.out.below HB.out) k hlt
          subst e
          have HH : Box (cr t N n Ln Ys k ≠ 0 → V = cr t N n Ln Ys k) := boxed (fun h => by rw [HC2.out, crs_hit t N n Ln Ys k m H0.out h hlt, if_neg h])
          have HN := boxed (crs_next t N n Ln Ys k H0.out)
          have HCR : Box (cr t N n Ln Ys k = if Ln k < 0 ∨ (t.size : Int) - pre Ln k < Ln k then 70 else if 0 ≤ Ys k ∧ Ys k < (n : Int) then (if btw t N (pre Ln (k + 1)) = true then 0 else 21) else 43) := boxed rfl
          have HP : Box (pre Ln (k + 1) = pre Ln k + Ln k) := boxed rfl
          have hbt := fun w => HBT.out (pre Ln (k + 1)) w
          have t3 : decide ((k : Int) < (m : Int)) = true := decide_eq_true (by omega)
          generalize cr t N n Ln Ys k = R at *
          rw [HP.out] at hbt
          generalize pre Ln k = A at *
          generalize Ln k = l at *
          generalize Ys k = y at *
          have hw1 : IntKind.i64.wrap ((t.size : Int) - A) = (t.size : Int) - A := by rw [IntKind.wrap_i64]; omega
          by_cases g1 : l < 0
          · have t4 : decide (l < 0) = true := decide_eq_true g1
            have HV : Box (V = 70) := boxed (by have e : R = 70 := by rw [HCR.out, if_pos (Or.inl g1)]
                                                rw [HH.out (by rw [e]; decide), e])
            clear g1 hbt hI
            go_wp2
            go_ret
            exact ⟨ret_int HV.out.symm, HB.out⟩
          have t4 : decide (l < 0) = false := decide_eq_false g1
          by_cases g2 : (t.size : Int) - A < l
          · have t5 : decide ((t.size : Int) - A < l) = true := decide_eq_true g2
            have HV : Box (V = 70) := boxed (by have e : R = 70 := by rw [HCR.out, if_pos (Or.inr g2)]
                                                rw [HH.out (by rw [e]; decide), e])
            clear g1 g2 hbt hI
            go_wp2
            go_ret
            exact ⟨ret_int HV.out.symm, HB.out⟩
          have t5 : decide ((t.size : Int) - A < l) = false := decide_eq_false g2
          have HCR2 : Box (R = if 0 ≤ y ∧ y < (n : Int) then (if btw t N (A + l) = true then 0 else 21) else 43) := boxed (by rw [HCR.out, if_neg (by omega), HP.out])
          by_cases g3 : y < 0
          · have t6 : decide (y < 0) = true := decide_eq_true g3
            have HV : Box (V = 43) := boxed (by have e : R = 43 := by rw [HCR2.out, if_neg (by omega)]
                                                rw [HH.out (by rw [e]; decide), e])
            clear g1 g2 g3 hbt hI
            go_wp2
            go_ret
            exact ⟨ret_int HV.out.symm, HB.out⟩
          have t6 : decide (y < 0) = false := decide_eq_false g3
          by_cases g4 : (n : Int) ≤ y
          · have t7 : decide ((n : Int) ≤ y) = true := decide_eq_true g4
            have HV : Box (V = 43) := boxed (by have e : R = 43 := by rw [HCR2.out, if_neg (by omega)]
                                                rw [HH.out (by rw [e]; decide), e])
            clear g1 g2 g3 g4 hbt hI
            go_wp2
            go_ret
            exact ⟨ret_int HV.out.symm, HB.out⟩
          have t7 : decide ((n : Int) ≤ y) = false := decide_eq_false g4
          have hal : A + l ≤ (t.size : Int) := by omega
          have hal0 : 0 ≤ A + l := by omega
          have HCR3 : Box (R = if btw t N (A + l) = true then 0 else 21) := boxed (by rw [HCR2.out, if_pos (by omega)])
          clear g1 g2 g3 g4 hI
          cases g5 : btw t N (A + l)
          · rw [g5] at hbt
            have HV : Box (V = 21) := boxed (by have e : R = 21 := by rw [HCR3.out, g5]; rfl
                                                rw [HH.out (by rw [e]; decide), e])
            go_wp2_with fail
            refine (hbt _).mono ?_
            rintro e w2 ⟨rfl, hb2⟩
            have HB2 := boxed (below_step HB.out (Nat.le_refl _) hb2)
            clear hb2 hbt
            go_wp2
            go_ret
            exact ⟨ret_int HV.out.symm, HB2.out⟩
          · rw [g5] at hbt
            have HN1 := boxed (HN.out (by rw [HCR3.out, g5]; rfl))
            go_wp2_with fail
            refine (hbt _).mono ?_
            rintro e w2 ⟨rfl, hb2⟩
            have HB2 := boxed (below_step HB.out (Nat.le_refl _) hb2)
            clear hb2 hbt
            go_wp2
            go_roundw
            case rel => exact ⟨k + 1, by omega, by rw [HP.out], by go_num, HN1, HB2⟩
            case measure => simp [intOf]; omega
        · have e : k = m := by omega
          subst e
          by_cases hp : pre Ln k = (t.size : Int)
          · have HV : Box (V = 0) := boxed (by rw [HC2.out, if_pos H0.out, if_pos hp])
            rw [hp]
            clear hp hp1 hp2
            go_wp2
            go_ret
            exact ⟨ret_int HV.out.symm, HB.out⟩
          · have HV : Box (V = 70) := boxed (by rw [HC2.out, if_pos H0.out, if_neg hp])
            have tp : (pre Ln k != (t.size : Int)) = true := by simpa using hp
            clear hp
            generalize pre Ln k = A at *
            go_wp2
            go_ret
            exact ⟨ret_int HV.out.symm, HB.out⟩
end Go.Proofs.Yteckbkcngkppmaa
