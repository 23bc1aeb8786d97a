/-
  What the program's Bad answers for every text: the place where going from rune to rune ends, if that is not the text's end.
-/
import Derived.Test.YtflhefgmgdgffaaDoorUd
namespace Go.Proofs.YtflhefgmgdgffaaDoor
open Go.RowKit
set_option linter.unusedSimpArgs false
set_option linter.unusedVariables false

theorem ext_size (s : ByteArray) (a b : Nat) (h : b ≤ s.size) : (s.extract a b).size = b - a := by
  rw [ByteArray.size_extract]; omega
theorem bt_ext (s : ByteArray) (a b k : Nat) (h : b ≤ s.size) : bt (s.extract a b) k = if a + k < b then bt s (a + k) else 256 := by
  have hz := ext_size s a b h
  by_cases c : a + k < b
  · rw [if_pos c, bt_in _ _ (by omega), bt_in _ _ (by omega), ByteArray.getElem_extract]
  · rw [if_neg c, bt_out _ _ (by omega)]
theorem bt_tail (s : ByteArray) (a k : Nat) : bt (s.extract a s.size) k = bt s (a + k) := by
  rw [bt_ext s a s.size k (Nat.le_refl _)]
  split
  · rfl
  · rw [bt_out s _ (by assumption)]
theorem dc_tail (s : ByteArray) (a k : Nat) : dc (s.extract a s.size) k = dc s (a + k) := by
  unfold dc; rw [bt_tail, bt_tail, bt_tail, bt_tail]; rfl

theorem read_at (s : ByteArray) (a : Nat) (w : World) (hs : s.size ≤ maxLen) :
    Calls Tryd.prog 59 #[.string (s.extract a s.size)] w fun e w' => e = .returned (.tuple #[.int .i32 ((dc s a).1 : Int), .int .i64 ((dc s a).2 : Int)]) ∧ w' = w := by
  have h := read_any (s.extract a s.size) w (by rw [ext_size s a s.size (Nat.le_refl _)]; omega)
  rw [dc_tail] at h
  exact h

set_option maxRecDepth 100000 in
set_option maxHeartbeats 800000 in
theorem bad_any (s : ByteArray) (w : World) (hs : s.size ≤ maxLen) (N : Nat) (hN : Cnt s N) :
    Calls Tryd.prog 50 #[.string s] w fun e w' => e = .returned (.int .i64 (badAt s N)) ∧ w' = w := by
  have HN := boxed hN
  have HS := boxed hs
  clear hN
  unfold maxLen at hs
  go_enter Tryd.func50, Tryd.ntmps50
  go_wp2
  go_loop [3] (fun i => ∃ k : Nat, k ≤ N ∧ i = .int .i64 (it s k)) (fun i => s.size - (intOf i).toNat)
  case atStart => exact ⟨0, Nat.zero_le _, rfl⟩
  case round =>
    obtain ⟨k, hk, rfl⟩ := hrel
    have hle := it_le s k
    have hr := fun w => read_at s (it s k) w HS.out
    have hd := dc_le s (it s k) (it_le s k)
    have hnx : it s (k + 1) = it s k + (dc s (it s k)).2 := rfl
    replace hnx := boxed hnx
    by_cases hlt : k < N
    · have hp := HN.out.1 k hlt
      have hin := dc_pos s _ hp
      have hz : ((((dc s (it s k)).2 : Nat) : Int) == 0) = false := by simp; omega
      generalize hA : it s k = A at *
      generalize dc s A = D at *
      obtain ⟨r, n⟩ := D
      simp only at *
      go_wp2_with (go_at_call 59; refine (hr _).mono ?_; rintro e w' ⟨rfl, hw'⟩; subst w')
      go_round
      case rel => exact ⟨k + 1, by omega, by rw [hnx.out]; go_num⟩
      case measure => simp [intOf]; omega
    · have hkN : k = N := by omega
      subst hkN
      have hp := HN.out.2
      by_cases hin : it s k < s.size
      · have hz : ((((dc s (it s k)).2 : Nat) : Int) == 0) = true := by simp; omega
        have hb : Box (badAt s k = (it s k : Int)) := boxed (by unfold badAt; rw [if_pos hin])
        generalize hA : it s k = A at *
        generalize dc s A = D at *
        obtain ⟨r, n⟩ := D
        simp only at *
        go_wp2_with (go_at_call 59; refine (hr _).mono ?_; rintro e w' ⟨rfl, hw'⟩; subst w')
        go_ret
        exact ⟨ret_int hb.out.symm, rfl⟩
      · have hb : Box (badAt s k = -1) := boxed (by unfold badAt; rw [if_neg hin])
        generalize hA : it s k = A at *
        clear hr hd hp
        go_wp2
        go_ret
        exact ⟨ret_int hb.out.symm, rfl⟩

/-- ErrUTF8, unless a text is right. -/
def chk (s : ByteArray) (N : Nat) : Int := if badAt s N < 0 then 0 else 20
theorem badAt_cases (s : ByteArray) (N : Nat) : badAt s N = -1 ∨ 0 ≤ badAt s N := by unfold badAt; split <;> omega

end Go.Proofs.YtflhefgmgdgffaaDoor
