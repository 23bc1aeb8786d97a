/-
  What the document's Right answers for every text of at most 1048576 bytes, and Between and Boundary for every place of a right one.
-/
import Derived.Test.YtifehmifgapodaaUm
namespace Go.Proofs.Ytifehmifgapodaa
open Go.RowKit
set_option linter.unusedSimpArgs false
set_option linter.unusedVariables false

set_option maxRecDepth 100000 in
theorem refright_any (s : ByteArray) (w : World) (hs : s.size ≤ 1048576) (N : Nat) (hN : Cnt s N) :
    Calls Try.prog 15 #[.string s] w fun e w' => e = .returned (.bool (decide (badAt s N < 0))) ∧ Below w.heap.size w w' := by
  have hru := runes_any s w hs N hN
  generalize badAt s N = B at *
  go_enter Try.func15, Try.ntmps15
  go_wp2_with fail
  refine hru.mono ?_
  rintro e w1 ⟨p1, c1, p2, c2, rfl, -, -, hb⟩
  have HB := boxed hb
  clear hb hru
  go_wp2
  go_ret
  exact ⟨rfl, HB.out⟩

/-- Does a place lie between runes? -/
def btw (s : ByteArray) (N : Nat) (a : Int) : Bool := decide (∃ j, j < N ∧ (it s j : Int) = a) || (a == (s.size : Int))

set_option maxRecDepth 100000 in
set_option maxHeartbeats 1600000 in
theorem between_any (s : ByteArray) (a : Int) (w : World) (hs : s.size ≤ 1048576) (N : Nat) (hN : Cnt s N) :
    Calls Try.prog 27 #[.string s, .int .i64 a] w fun e w' => e = .returned (.bool (btw s N a)) ∧ Below w.heap.size w w' := by
  have hru := runes_any s w hs N hN
  have hNl : N ≤ s.size := by have := cnt_le s N hN; have := it_le s N; omega
  have hl2 := its_len s N
  generalize badAt s N = B at *
  clear hN
  go_enter Try.func27, Try.ntmps27
  go_wp2_with fail
  refine hru.mono ?_
  rintro e w1 ⟨p1, c1, p2, c2, rfl, -, hdg, hb⟩
  have HB := boxed hb
  have HD := boxed hdg
  have q2 := hdg.1
  rw [hl2] at q2
  unfold maxLen at q2
  clear hb hru hdg
  go_wp2
  go_loop [8] (fun i => ∃ k : Nat, k ≤ N ∧ i = .int .i64 (k : Int) ∧ Box (∀ j, j < k → (it s j : Int) ≠ a)) (fun i => N - (intOf i).toNat)
  case atStart => exact ⟨0, Nat.zero_le _, rfl, boxed (by intro j hj; omega)⟩
  case round =>
    obtain ⟨k, hk, rfl, HK⟩ := hrel
    by_cases hlt : k < N
    · obtain ⟨-, hx | ⟨g, off, hp, hg, hc⟩⟩ := HD.out
      · exfalso; rw [hx] at hl2; simp at hl2; omega
      subst hp
      have hcell := hc k (by omega)
      rw [its_get s N k hlt] at hcell
      clear hc
      have hle := it_le s k
      have HA : Box (it s k = it s k) := boxed rfl
      cases he : ((it s k : Int) == a) with
      | true =>
        have HV : Box (btw s N a = true) := boxed (by
          unfold btw
          rw [decide_eq_true ⟨k, hlt, by simpa using he⟩]; rfl)
        generalize it s k = A at *
        go_wp2
        go_ret
        exact ⟨ret_bool HV.out.symm, HB.out⟩
      | false =>
        have HV : Box (∀ j, j < k + 1 → (it s j : Int) ≠ a) := boxed (by
          intro j hj
          by_cases c : j = k
          · subst c; simpa using he
          · exact HK.out j (by omega))
        generalize it s k = A at *
        go_wp2
        go_round
        case rel => exact ⟨k + 1, by omega, by go_num, HV⟩
        case measure => simp [intOf]; omega
    · have hkN : k = N := by omega
      subst hkN
      have HV : Box (btw s k a = (a == (s.size : Int))) := boxed (by
        unfold btw
        rw [decide_eq_false (by rintro ⟨j, hj, e⟩; exact HK.out j hj e)]; rfl)
      go_wp2
      go_ret
      exact ⟨ret_bool HV.out.symm, HB.out⟩

set_option maxRecDepth 100000 in
set_option maxHeartbeats 1600000 in
theorem refboundary_any (s : ByteArray) (a : Int) (w : World) (hs : s.size ≤ 1048576) (N : Nat) (hN : Right s N) :
    Calls Try.prog 17 #[.string s, .int .i64 a] w fun e w' => e = .returned (.int .i64 (bnd s a)) ∧ Below w.heap.size w w' := by
  by_cases h1 : a < 0
  · have hv : Box (bnd s a = 30) := boxed (by unfold bnd; rw [if_pos (Or.inl h1)])
    go_enter Try.func17, Try.ntmps17
    go_wp2
    go_ret
    exact ⟨ret_int hv.out.symm, Below.refl _ _⟩
  by_cases h2 : (s.size : Int) < a
  · have hv : Box (bnd s a = 30) := boxed (by unfold bnd; rw [if_pos (Or.inr h2)])
    have d1 : decide (a < 0) = false := decide_eq_false h1
    go_enter Try.func17, Try.ntmps17
    go_wp2
    go_ret
    exact ⟨ret_int hv.out.symm, Below.refl _ _⟩
  obtain ⟨k, rfl⟩ : ∃ k : Nat, a = (k : Int) := ⟨a.toNat, by omega⟩
  have d1 : decide ((k : Int) < 0) = false := decide_eq_false (by omega)
  have d2 : decide ((s.size : Int) < (k : Int)) = false := decide_eq_false (by omega)
  have d2' : decide (s.size < k) = false := decide_eq_false (by omega)
  have hbt := between_any s (k : Int) w hs N hN.1
  have HV : Box (bnd s k = if btw s N k = true then 0 else 21) := boxed (by
    unfold bnd
    rw [if_neg (by omega)]
    by_cases h3 : k < s.size
    · have hi := ins_begin s N hN k h3
      have hc : btw s N k = true ↔ ins (bt s k : Int) = false := by
        rw [hi]
        unfold btw
        simp only [Bool.or_eq_true, decide_eq_true_eq, beq_iff_eq]
        constructor
        · rintro (⟨j, h, e⟩ | e)
          · exact ⟨j, h, by omega⟩
          · omega
        · rintro ⟨j, h, e⟩
          exact Or.inl ⟨j, h, by omega⟩
      cases hx : ins (bt s k : Int) with
      | true => rw [if_pos ⟨by omega, by simpa using hx⟩, if_neg (by rw [hc, hx]; simp)]
      | false => rw [if_neg (by rintro ⟨_, c⟩; simp [hx] at c), if_pos (by rw [hc, hx])]
    · have hb : btw s N k = true := by unfold btw; simp; right; omega
      rw [if_neg (by omega), if_pos hb])
  clear h1 h2 hN
  generalize btw s N k = b at *
  cases b
  all_goals
    go_enter Try.func17, Try.ntmps17
    go_wp2_with fail
    refine hbt.mono ?_
    rintro e w1 ⟨rfl, hb⟩
    have HB := boxed hb
    clear hb hbt
    go_wp2
    go_ret
    exact ⟨ret_int (by rw [HV.out]; rfl), HB.out⟩
end Go.Proofs.Ytifehmifgapodaa
