/-
  What the document's Ends answers: where the line ends stand.
-/
import Derived.Test.YtfikmlgmklnlaaaWy
namespace Go.Proofs.Ytfikmlgmklnlaaa
open Go.RowKit
set_option linter.unusedSimpArgs false
set_option linter.unusedVariables false

/-- Where line ends stand among the first bytes. -/
def les (l : List Nat) : Nat → List Nat
  | 0 => []
  | k + 1 => if l.getD k 0 = 10 then les l k ++ [k] else les l k
theorem les_len (l : List Nat) : ∀ k, k ≤ l.length → (les l k).length = nl (l.take k)
  | 0, _ => by simp [les, nl]
  | k + 1, h => by
    rw [nl_take_succ l k (by omega), ← les_len l k (by omega)]
    simp only [les]
    split <;> simp
theorem les_all (l : List Nat) : (les l l.length).length = nl l := by rw [les_len l _ (Nat.le_refl _), List.take_length]
theorem les_le (l : List Nat) : ∀ k, (les l k).length ≤ k
  | 0 => by simp [les]
  | k + 1 => by
    have := les_le l k
    simp only [les]
    split
    · simp; omega
    · omega

set_option maxRecDepth 100000 in
set_option maxHeartbeats 1000000 in
theorem ends_any (s : ByteArray) (w : World) (hs : s.size ≤ 1048576) :
    Calls Try.prog 15 #[.string s] w fun e w' => ∃ ao cap, e = .returned (.slice ao (les (bl s) s.size).length cap) ∧ Dg w' ao cap (les (bl s) s.size) ∧ Below w.heap.size w w' := by
  obtain ⟨i0, hi, hz0, hz1, hz2⟩ := info_parts info_int
  go_enter Try.func15, Try.ntmps15
  go_wp2
  go_loopw [3, 4] (fun v i wr => ∃ k : Nat, k ≤ s.size ∧ i = .int .i64 (k : Nat) ∧ wr.ownsRow w.heap.size 3 1 v (les (bl s) k).length (vals (les (bl s) k)) ∧ Below w.heap.size w wr) (fun _ i _ => s.size - (intOf i).toNat)
  case atStart => exact ⟨0, Nat.zero_le _, rfl, World.ownsRow_nil _ _ _ _, Below.refl _ _⟩
  case round =>
    obtain ⟨k, hk, rfl, hown, hbel⟩ := hrel
    by_cases hlt : k < s.size
    · have hx := idx s k hlt (k : Int) rfl
      have hle := les_le (bl s) k
      have HV := boxed (bl_bt s k hlt)
      by_cases h10 : bt s k = 10
      · have HS : Box (les (bl s) (k + 1) = les (bl s) k ++ [k]) := boxed (by simp only [les]; rw [HV.out, if_pos h10])
        rw [h10] at hx
        clear HV h10
        generalize les (bl s) k = Lk at *
        have hsz := hbel.size
        go_wp2_with (at_builtin; refine wpList_append_apart rfl _ _ 30 rfl w.heap.size 3 i0 (.int .i64 0) 1 8 Try.underlying30 hi hz0 hz1 hz2 rfl (by decide) _ _ _ rfl (hown.alloc _) ⟨wr.heap.size, 0, none⟩ 1 1 [.int .i64 (k : Int)] rfl rfl ?c1 ?c2 ?c3 ?c4 ?c5 ?c6 ?_)
        case c1 =>
          intro j u hj
          match j, hj with
          | 0, hj => simp at hj; subst hj; simp [Addr.add]
        case c2 => intro u hu; simp at hu; subst hu; rfl
        case c3 => unfold maxLen; omega
        case c4 => omega
        case c5 => simp; omega
        case c6 => omega
        intro v' w2 hown2 hgrow2 _
        have hbel2 : Below w.heap.size w w2 := (hbel.alloc (by omega) _).grown hgrow2 (by simp; omega) (fun k hk => (hown.lt k hk).1)
        rw [vals_snoc] at hown2
        clear hown hgrow2 hbel
        go_wp2
        go_roundw
        case rel => exact ⟨k + 1, by omega, by go_num, by rw [HS.out]; simpa using hown2, hbel2⟩
        case measure => simp [intOf]; omega
      · have HS : Box (les (bl s) (k + 1) = les (bl s) k) := boxed (by simp only [les]; rw [HV.out, if_neg h10])
        have hd : ((bt s k : Int) == 10) = false := by rw [beq_eq_false_iff_ne]; omega
        clear HV h10
        generalize bt s k = V at *
        go_wp2
        go_roundw
        case rel => exact ⟨k + 1, by omega, by go_num, by rw [HS.out]; exact hown, hbel⟩
        case measure => simp [intOf]; omega
    · have hkN : k = s.size := by omega
      subst hkN
      obtain ⟨-, a1, c1, rfl, hd1⟩ := dg_of_owns hown
      have HD1 := boxed hd1
      have HB := boxed hbel
      clear hd1 hbel hown
      go_wp2
      go_ret
      exact ⟨a1, c1, rfl, HD1.out, HB.out⟩
end Go.Proofs.Ytfikmlgmklnlaaa
