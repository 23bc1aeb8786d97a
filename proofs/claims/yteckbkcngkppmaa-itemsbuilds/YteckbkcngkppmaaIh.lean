/-
  What the document's Between answers for every place.
-/
import Derived.Test.YteckbkcngkppmaaNd
import Derived.Test.YteckbkcngkppmaaNe
namespace Go.Proofs.Yteckbkcngkppmaa
open Go.RowKit
set_option linter.unusedSimpArgs false
set_option linter.unusedVariables false

/-- Does a place lie between runes? -/
def btw (s : ByteArray) (N : Nat) (a : Int) : Bool := decide (∃ j, j < N ∧ (it s j : Int) = a) || (a == (s.size : Int))

set_option maxRecDepth 100000 in
set_option maxHeartbeats 1600000 in
theorem between_any (s : ByteArray) (a : Int) (w : World) (hs : s.size ≤ 1048576) (N : Nat) (hN : Cnt s N) :
    Calls Try.prog 52 #[.string s, .int .i64 a] w fun e w' => e = .returned (.bool (btw s N a)) ∧ Below w.heap.size w w' := by
  have hru := runes_any s w hs N hN
  have hNl : N ≤ s.size := by have := cnt_le s N hN; have := it_le s N; omega
  have hl2 := its_len s N
  generalize badAt s N = B at *
  clear hN
  go_enter Try.func52, Try.ntmps52
  go_wp2_with fail
  refine hru.mono ?_
  rintro e w1 ⟨p1, c1, p2, c2, rfl, -, hdg, hb⟩
  have HB := boxed hb
  have HD := boxed hdg
  have q2 := hdg.1
  rw [hl2] at q2
  unfold maxLen at q2
  clear hb hru hdg
  go_wp2
  go_loop [8] (fun i => ∃ k : Nat, k ≤ N ∧ i = .int .i64 (k : Int) ∧ Box (∀ j, j < k → (it s j : Int) ≠ a)) (fun i => N - (intOf i).toNat)
  case atStart => exact ⟨0, Nat.zero_le _, rfl, boxed (by intro j hj; omega)⟩
  case round =>
    obtain ⟨k, hk, rfl, HK⟩ := hrel
    by_cases hlt : k < N
    · obtain ⟨-, hx | ⟨g, off, hp, hg, hc⟩⟩ := HD.out
      · exfalso; rw [hx] at hl2; simp at hl2; omega
      subst hp
      have hcell := hc k (by omega)
      rw [its_get s N k hlt] at hcell
      clear hc
      have hle := it_le s k
      have HA : Box (it s k = it s k) := boxed rfl
      cases he : ((it s k : Int) == a) with
      | true =>
        have HV : Box (btw s N a = true) := boxed (by
          unfold btw
          rw [decide_eq_true ⟨k, hlt, by simpa using he⟩]; rfl)
        generalize it s k = A at *
        go_wp2
        go_ret
        exact ⟨ret_bool HV.out.symm, HB.out⟩
      | false =>
        have HV : Box (∀ j, j < k + 1 → (it s j : Int) ≠ a) := boxed (by
          intro j hj
          by_cases c : j = k
          · subst c; simpa using he
          · exact HK.out j (by omega))
        generalize it s k = A at *
        go_wp2
        go_round
        case rel => exact ⟨k + 1, by omega, by go_num, HV⟩
        case measure => simp [intOf]; omega
    · have hkN : k = N := by omega
      subst hkN
      have HV : Box (btw s k a = (a == (s.size : Int))) := boxed (by
        unfold btw
        rw [decide_eq_false (by rintro ⟨j, hj, e⟩; exact HK.out j hj e)]; rfl)
      go_wp2
      go_ret
      exact ⟨ret_bool HV.out.symm, HB.out⟩

end Go.Proofs.Yteckbkcngkppmaa
