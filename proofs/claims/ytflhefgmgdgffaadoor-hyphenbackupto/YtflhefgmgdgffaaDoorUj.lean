/-
  What the document's begins and Read answer for every text and every place of it: Read tells the rune that begins there and how many bytes it has, -1 and 0, if none does.
-/
import Derived.Test.YtflhefgmgdgffaaDoorUi
namespace Go.Proofs.YtflhefgmgdgffaaDoor
open Go.RowKit
set_option linter.unusedSimpArgs false
set_option linter.unusedVariables false

/-- Does a text at a place go on with bytes? -/
def beg (s : ByteArray) (a : Nat) (l : List Nat) : Bool := decide (∀ i, i < l.length → bt s (a + i) = l.getD i 0)

set_option maxRecDepth 100000 in
set_option maxHeartbeats 1600000 in
theorem begins_any (s : ByteArray) (a : Nat) (ao : Option Addr) (cap : Nat) (l : List Nat) (w : World) (hs : s.size ≤ 1048576) (hd : Dg w ao cap l) (hl : 0 < l.length) (ha : a + l.length ≤ s.size) :
    Calls Tryd.prog 40 #[.string s, .int .i64 (a : Int), .slice ao l.length cap] w fun e w' => e = .returned (.bool (beg s a l)) ∧ ∃ n, w' = w.drewN n := by
  obtain ⟨⟨c1, c2⟩, h | ⟨b, off, rfl, hb, hc⟩⟩ := hd
  · rw [h] at hl; simp at hl
  have HC := boxed hc
  clear hc
  unfold maxLen at c2
  have z0 : ((l.length : Int) == 0) = false := by rw [beq_eq_false_iff_ne]; omega
  have z1 : decide ((s.size : Int) < (a : Int) + (l.length : Int)) = false := decide_eq_false (by omega)
  have HB : Box (beg s a l = decide (∀ i, i < l.length → bt s (a + i) = l.getD i 0)) := boxed rfl
  have HL : Box (∀ i, i < l.length → l.getD i 0 = l.getD i 0) := boxed (fun _ _ => rfl)
  generalize hn : l.length = n at *
  go_enter Tryd.func40, Tryd.ntmps40
  go_wp2
  go_loopw [7] (fun i wr => ∃ k m : Nat, k ≤ n ∧ i = .int .i64 (k : Int) ∧ wr = w.drewN m ∧ Box (∀ j, j < k → bt s (a + j) = l.getD j 0)) (fun i _ => n - (intOf i).toNat)
  case atStart => exact ⟨0, 0, Nat.zero_le _, rfl, rfl, boxed (by intro j hj; omega)⟩
  case round =>
    obtain ⟨k, m, hk, rfl, rfl, HK⟩ := hrel
    by_cases hlt : k < n
    · have hcell := HC.out k hlt
      have hix := idx s (a + k) (by omega) ((a : Int) + (k : Int)) (by omega)
      have HY : Box (bt s (a + k) = l.getD k 0 ↔ bt s (a + k) = l.getD k 0) := boxed Iff.rfl
      have hx := bt_lt s (a + k) (by omega)
      generalize hX : bt s (a + k) = x at *
      generalize hYY : l.getD k 0 = y at *
      replace hX := boxed hX
      replace hYY := boxed hYY
      by_cases hxy : x = y
      · subst hxy
        go_wp2
        go_quiet (fail)
        go_wp2
        go_roundw
        case rel =>
          refine ⟨k + 1, _, by omega, by go_num, rfl, boxed ?_⟩
          intro j hj
          by_cases c : j = k
          · subst c; rw [hX.out, hYY.out]
          · exact HK.out j (by omega)
        case measure => simp [intOf]; omega
      · have hne : ((x : Int) != (y : Int)) = true := by simp; omega
        go_wp2
        go_quiet (fail)
        go_wp2
        go_ret
        refine ⟨ret_bool ?_, _, World.drewN_drewN _ _ _⟩
        rw [HB.out]
        symm
        apply decide_eq_false
        intro c
        have := c k hlt
        rw [hX.out, hYY.out] at this
        exact hxy this
    · go_wp2
      go_ret
      refine ⟨ret_bool ?_, _, rfl⟩
      rw [HB.out]
      symm
      apply decide_eq_true
      intro j hj
      exact HK.out j (by omega)

/-- Do the bytes at a place write the number that as many of them would write? -/
def hit (s : ByteArray) (a n : Nat) : Prop := (byts (vv s a n)).length = n ∧ beg s a (byts (vv s a n)) = true

theorem byts_1 (r : Nat) (h : r < 128) : byts r = [r] := by
  unfold byts; rw [if_neg (by rw [isR_mk _ (by omega)]; simp), if_pos h]
theorem byts_2 (r : Nat) (h : 128 ≤ r) (h2 : r < 2048) : byts r = [192 + r / 64, 128 + r % 64] := by
  unfold byts; rw [if_neg (by rw [isR_mk _ (by omega)]; simp), if_neg (by omega), if_pos h2]
theorem byts_3 (r : Nat) (h : 2048 ≤ r) (h2 : r < 65536) (hx : isR (r : Int) = true) : byts r = [224 + r / 4096, 128 + r / 64 % 64, 128 + r % 64] := by
  unfold byts; rw [if_neg (by rw [hx]; simp), if_neg (by omega), if_neg (by omega), if_pos h2]
theorem byts_4 (r : Nat) (h : 65536 ≤ r) (hx : isR (r : Int) = true) : byts r = [240 + r / 262144, 128 + r / 4096 % 64, 128 + r / 64 % 64, 128 + r % 64] := by
  unfold byts; rw [if_neg (by rw [hx]; simp), if_neg (by omega), if_neg (by omega), if_neg (by omega)]
theorem byts_0 (r : Nat) (hx : isR (r : Int) = false) : byts r = [] := by unfold byts; rw [if_pos hx]
/-- How many bytes a rune has. -/
theorem byts_len (r : Nat) : (isR (r : Int) = false ∧ (byts r).length = 0) ∨ (r < 128 ∧ (byts r).length = 1) ∨ (128 ≤ r ∧ r < 2048 ∧ (byts r).length = 2) ∨ (2048 ≤ r ∧ r < 65536 ∧ isR (r : Int) = true ∧ (byts r).length = 3) ∨
    (65536 ≤ r ∧ isR (r : Int) = true ∧ (byts r).length = 4) := by
  by_cases h1 : r < 128
  · exact Or.inr (Or.inl ⟨h1, by rw [byts_1 r h1]; rfl⟩)
  by_cases h2 : r < 2048
  · exact Or.inr (Or.inr (Or.inl ⟨by omega, h2, by rw [byts_2 r (by omega) h2]; rfl⟩))
  cases hx : isR (r : Int) with
  | false => exact Or.inl ⟨rfl, by rw [byts_0 r hx]; rfl⟩
  | true =>
    by_cases h3 : r < 65536
    · exact Or.inr (Or.inr (Or.inr (Or.inl ⟨by omega, h3, rfl, by rw [byts_3 r (by omega) h3 hx]; rfl⟩)))
    · exact Or.inr (Or.inr (Or.inr (Or.inr ⟨by omega, rfl, by rw [byts_4 r (by omega) hx]; rfl⟩)))

theorem beg_1 (s : ByteArray) (a x : Nat) : beg s a [x] = true ↔ bt s a = x := by
  unfold beg; rw [decide_eq_true_iff]
  constructor
  · intro h; exact h 0 (by simp)
  · intro h i hi; match i, hi with | 0, _ => exact h
theorem beg_2 (s : ByteArray) (a x y : Nat) : beg s a [x, y] = true ↔ bt s a = x ∧ bt s (a + 1) = y := by
  unfold beg; rw [decide_eq_true_iff]
  constructor
  · intro h; exact ⟨h 0 (by simp), h 1 (by simp)⟩
  · intro h i hi; match i, hi with | 0, _ => exact h.1 | 1, _ => exact h.2
theorem beg_3 (s : ByteArray) (a x y z : Nat) : beg s a [x, y, z] = true ↔ bt s a = x ∧ bt s (a + 1) = y ∧ bt s (a + 2) = z := by
  unfold beg; rw [decide_eq_true_iff]
  constructor
  · intro h; exact ⟨h 0 (by simp), h 1 (by simp), h 2 (by simp)⟩
  · intro h i hi; match i, hi with | 0, _ => exact h.1 | 1, _ => exact h.2.1 | 2, _ => exact h.2.2
theorem beg_4 (s : ByteArray) (a x y z t : Nat) : beg s a [x, y, z, t] = true ↔ bt s a = x ∧ bt s (a + 1) = y ∧ bt s (a + 2) = z ∧ bt s (a + 3) = t := by
  unfold beg; rw [decide_eq_true_iff]
  constructor
  · intro h; exact ⟨h 0 (by simp), h 1 (by simp), h 2 (by simp), h 3 (by simp)⟩
  · intro h i hi; match i, hi with | 0, _ => exact h.1 | 1, _ => exact h.2.1 | 2, _ => exact h.2.2.1 | 3, _ => exact h.2.2.2

theorem hit_dc (s : ByteArray) (a n : Nat) (hn : 1 ≤ n ∧ n ≤ 4) (ha : a + n ≤ s.size) (h : hit s a n) : dc s a = (vv s a n, n) := by
  obtain ⟨h1, h2⟩ := h
  have hL := byts_len (vv s a n)
  have b0 := bt_lt s a (by omega)
  have hc : n = 1 ∨ n = 2 ∨ n = 3 ∨ n = 4 := by omega
  rcases hc with rfl | rfl | rfl | rfl
  · have hr : vv s a 1 < 128 := by omega
    exact dec1 hr
  · have hr : 128 ≤ vv s a 2 ∧ vv s a 2 < 2048 := by omega
    rw [byts_2 _ hr.1 hr.2, beg_2] at h2
    have b1 := bt_lt s (a + 1) (by omega)
    simp only [vv] at *
    unfold dc
    rw [dec2 (by omega) (by omega) (by omega), Prod.mk.injEq]
    exact ⟨by omega, rfl⟩
  · have hr : 2048 ≤ vv s a 3 ∧ vv s a 3 < 65536 ∧ isR (vv s a 3 : Int) = true := by
      rcases hL with h | h | h | h | h <;> first | omega | exact ⟨h.1, h.2.1, h.2.2.1⟩
    rw [byts_3 _ hr.1 hr.2.1 hr.2.2, beg_3] at h2
    have b1 := bt_lt s (a + 1) (by omega)
    have b2 := bt_lt s (a + 2) (by omega)
    have hx := isR_t _ hr.2.2
    simp only [vv] at *
    unfold dc
    rw [dec3 (by omega) (by omega) (by omega) (by omega) (by omega), Prod.mk.injEq]
    exact ⟨by omega, rfl⟩
  · have hr : 65536 ≤ vv s a 4 ∧ isR (vv s a 4 : Int) = true := by
      rcases hL with h | h | h | h | h <;> first | omega | exact ⟨h.1, h.2.1⟩
    rw [byts_4 _ hr.1 hr.2, beg_4] at h2
    have b1 := bt_lt s (a + 1) (by omega)
    have b2 := bt_lt s (a + 2) (by omega)
    have b3 := bt_lt s (a + 3) (by omega)
    have hx := isR_t _ hr.2
    simp only [vv] at *
    unfold dc
    rw [dec4 (by omega) (by omega) (by omega) (by omega) (by omega) (by omega), Prod.mk.injEq]
    exact ⟨by omega, rfl⟩

theorem dc_hit (s : ByteArray) (a : Nat) (h : 0 < (dc s a).2) : hit s a (dc s a).2 := by
  have D : dc s a = dec (bt s a) (bt s (a + 1)) (bt s (a + 2)) (bt s (a + 3)) := rfl
  rcases dec_cases (bt s a) (bt s (a + 1)) (bt s (a + 2)) (bt s (a + 3)) with ⟨q, e⟩ | ⟨q, e⟩ | ⟨q, e⟩ | ⟨q, e⟩ | e
  · rw [D, e]
    have hb : byts (vv s a 1) = [bt s a] := byts_1 _ q
    exact ⟨by rw [hb]; rfl, by rw [hb, beg_1]⟩
  · rw [D, e]
    have hv : vv s a 2 = (bt s a - 192) * 64 + (bt s (a + 1) - 128) := by simp only [vv]; omega
    have hb := byts_2 (vv s a 2) (by omega) (by omega)
    exact ⟨by rw [hb]; rfl, by rw [hb, beg_2, hv]; omega⟩
  · rw [D, e]
    have hv : vv s a 3 = (bt s a - 224) * 4096 + (bt s (a + 1) - 128) * 64 + (bt s (a + 2) - 128) := by simp only [vv]; omega
    have hb := byts_3 (vv s a 3) (by omega) (by omega) (isR_mk _ (by omega))
    exact ⟨by rw [hb]; rfl, by rw [hb, beg_3, hv]; omega⟩
  · rw [D, e]
    have hv : vv s a 4 = (bt s a - 240) * 262144 + (bt s (a + 1) - 128) * 4096 + (bt s (a + 2) - 128) * 64 + (bt s (a + 3) - 128) := by simp only [vv]; omega
    have hb := byts_4 (vv s a 4) (by omega) (isR_mk _ (by omega))
    exact ⟨by rw [hb]; rfl, by rw [hb, beg_4, hv]; omega⟩
  · rw [D, e] at h; exact absurd h (by simp)

/-- What the document's Read answers. -/
def rf (s : ByteArray) (a : Nat) : Int × Int := if (dc s a).2 = 0 then (-1, 0) else (((dc s a).1 : Int), ((dc s a).2 : Int))

theorem vv_le (s : ByteArray) (a n : Nat) (hn : 1 ≤ n ∧ n ≤ 4) (ha : a + n ≤ s.size) : vv s a n ≤ 4194304 := by
  have b0 := bt_lt s a (by omega)
  have hc : n = 1 ∨ n = 2 ∨ n = 3 ∨ n = 4 := by omega
  rcases hc with rfl | rfl | rfl | rfl <;> simp only [vv] <;> omega
end Go.Proofs.YtflhefgmgdgffaaDoor
