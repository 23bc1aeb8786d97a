/-
  What the document's Read answers at every place of a text of at most 1048576 bytes.
-/
import Derived.Test.YtflhefgmgdgffaaDoorUj
namespace Go.Proofs.YtflhefgmgdgffaaDoor
open Go.RowKit
set_option linter.unusedSimpArgs false
set_option linter.unusedVariables false

set_option maxRecDepth 100000 in
set_option maxHeartbeats 1600000 in
theorem refread_any (s : ByteArray) (a : Nat) (w : World) (hs : s.size ≤ 1048576) (ha : a ≤ s.size) :
    Calls Tryd.prog 20 #[.string s, .int .i64 (a : Int)] w fun e w' => e = .returned (.tuple #[.int .i64 (rf s a).1, .int .i64 (rf s a).2]) ∧ Below w.heap.size w w' := by
  have H1 : Box (∀ n, 1 ≤ n ∧ n ≤ 4 → a + n ≤ s.size → hit s a n → rf s a = ((vv s a n : Int), (n : Int))) := boxed (by
    intro n hn hl h
    have e := hit_dc s a n hn hl h
    unfold rf
    rw [e, if_neg (by simp; omega)])
  have H2 : Box (∀ m, 1 ≤ m → (∀ j, 1 ≤ j ∧ j < m → ¬ hit s a j) → (4 < m ∨ s.size < a + m) → rf s a = (-1, 0)) := boxed (by
    intro m hm hj hx
    unfold rf
    by_cases c : (dc s a).2 = 0
    · rw [if_pos c]
    · exfalso
      have hl := dc_le s a ha
      exact hj (dc s a).2 ⟨by omega, by omega⟩ (dc_hit s a (by omega)))
  go_enter Tryd.func20, Tryd.ntmps20
  go_wp2
  go_loopw [6] (fun i wr => ∃ m : Nat, (1 ≤ m ∧ m ≤ 5) ∧ i = .int .i64 (m : Int) ∧ Below w.heap.size w wr ∧ Box (∀ j, 1 ≤ j ∧ j < m → ¬ hit s a j)) (fun i _ => 5 - (intOf i).toNat)
  case atStart => exact ⟨1, by omega, rfl, Below.refl _ _, boxed (by intro j hj; omega)⟩
  case round =>
    obtain ⟨m, hm, rfl, hbel, HJ⟩ := hrel
    have HB := boxed hbel
    clear hbel
    by_cases h4 : m ≤ 4
    · have d4 : decide ((m : Int) ≤ 4) = true := decide_eq_true (by omega)
      by_cases hl : a + m ≤ s.size
      · have d5 : decide ((a : Int) + (m : Int) ≤ (s.size : Int)) = true := decide_eq_true (by omega)
        have hval := value_any s a m wr hs ⟨hm.1, h4⟩ hl
        have hvl := vv_le s a m ⟨hm.1, h4⟩ hl
        have HH : Box (hit s a m ↔ ((byts (vv s a m)).length = m ∧ beg s a (byts (vv s a m)) = true)) := boxed Iff.rfl
        have HR := boxed (H1.out m ⟨hm.1, h4⟩ hl)
        generalize vv s a m = V at *
        have hby := bytes_any V wr hvl
        go_wp2_with fail
        refine hval.mono ?_
        rintro e w' ⟨rfl, hw'⟩
        subst w'
        go_wp2_with fail
        refine hby.mono ?_
        rintro e w1 ⟨ao, cap, rfl, hdg, hb1⟩
        have HD := boxed hdg
        have HB1 : Box (Below w.heap.size w w1) := boxed (HB.out.trans (hb1.mono HB.out.size))
        clear hdg hb1 hby hval
        by_cases hlen : (byts V).length = m
        · have hbe := begins_any s a ao cap (byts V) w1 hs HD.out (by omega) (by omega)
          have d6 : (((byts V).length : Int) == (m : Int)) = true := by rw [beq_iff_eq]; omega
          cases hbg : beg s a (byts V) with
          | true =>
            rw [hbg] at hbe
            replace HR := boxed (HR.out (HH.out.2 ⟨hlen, hbg⟩))
            clear hbg hlen
            generalize (byts V).length = L at *
            go_wp2_with (go_at_call 40; refine hbe.mono ?_; rintro e w' ⟨rfl, n, hw'⟩; subst w')
            go_ret2
            exact ⟨by rw [HR.out]; rfl, HB1.out.trans (bel_drewN _ _ _)⟩
          | false =>
            rw [hbg] at hbe
            have HN : Box (¬ hit s a m) := boxed (by rw [HH.out, hbg]; rintro ⟨_, c⟩; cases c)
            clear hbg hlen
            generalize (byts V).length = L at *
            go_wp2_with (go_at_call 40; refine hbe.mono ?_; rintro e w' ⟨rfl, n, hw'⟩; subst w')
            go_roundw
            case rel =>
              refine ⟨m + 1, by omega, by go_num, HB1.out.trans (bel_drewN _ _ _), boxed ?_⟩
              intro j hj
              by_cases c : j = m
              · subst c; exact HN.out
              · exact HJ.out j (by omega)
            case measure => simp [intOf]; omega
        · have d6 : (((byts V).length : Int) == (m : Int)) = false := by rw [beq_eq_false_iff_ne]; omega
          have HN : Box (¬ hit s a m) := boxed (by rw [HH.out]; rintro ⟨c, _⟩; exact hlen c)
          clear hlen
          generalize (byts V).length = L at *
          go_wp2
          go_roundw
          case rel =>
            refine ⟨m + 1, by omega, by go_num, HB1.out, boxed ?_⟩
            intro j hj
            by_cases c : j = m
            · subst c; exact HN.out
            · exact HJ.out j (by omega)
          case measure => simp [intOf]; omega
      · have d5 : decide ((a : Int) + (m : Int) ≤ (s.size : Int)) = false := decide_eq_false (by omega)
        have HR := boxed (H2.out m hm.1 HJ.out (Or.inr (by omega)))
        go_wp2
        go_ret2
        exact ⟨by rw [HR.out]; rfl, HB.out⟩
    · have d4 : decide ((m : Int) ≤ 4) = false := decide_eq_false (by omega)
      have HR := boxed (H2.out m hm.1 HJ.out (Or.inl (by omega)))
      go_wp2
      go_ret2
      exact ⟨by rw [HR.out]; rfl, HB.out⟩
end Go.Proofs.YtflhefgmgdgffaaDoor
