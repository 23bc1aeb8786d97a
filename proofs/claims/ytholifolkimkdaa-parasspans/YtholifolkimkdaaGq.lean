/-
  What the document's Insert answers, whatever it is asked.
-/
import Derived.Test.YtholifolkimkdaaGp
namespace Go.Proofs.Ytholifolkimkdaa
open Go.RowKit
set_option linter.unusedSimpArgs false
set_option linter.unusedVariables false

/-- The text that an insertion leaves. -/
def insR (s : ByteArray) (a : Int) (m : ByteArray) : ByteArray := if insE (ln s) a m.size = 0 ∧ m.size ≠ 0 then s.extract 0 a.toNat ++ m ++ s.extract a.toNat s.size else s
theorem ln_insR (s : ByteArray) (a : Int) (m : ByteArray) : ln (insR s a m) = insL (ln s) a (ln m) := by
  unfold insR
  by_cases c : insE (ln s) a m.size = 0 ∧ m.size ≠ 0
  · rw [if_pos c]
    unfold insL
    rw [ln_len, if_pos c.1, ln_app, ln_app, ln_ext, ln_ext, List.drop_zero, List.take_of_length_le (i := s.size) (by rw [ln_len]; exact Nat.le_refl _)]
  · rw [if_neg c]
    by_cases d : m.size = 0
    · exact (ins_none (by rw [ln_len]; exact d)).1.symm
    · exact (ins_bad (fun e => c ⟨by rw [ln_len] at e; exact e, d⟩)).1.symm

set_option maxRecDepth 100000 in
set_option maxHeartbeats 2000000 in
theorem rinsert_none (s : ByteArray) (a : Int) (m : ByteArray) (w : World) (hs : s.size ≤ 65536) (hsz : m.size ≤ 65536) (hno : insE (ln s) a m.size ≠ 0 ∨ m.size = 0) :
    Calls Try.prog 30 #[.string s, .int .i64 a, .string m] w fun e w' => RefP w s 0 0 0 (insE (ln s) a m.size) e w' := by
  obtain ⟨w0, hw0⟩ : ∃ w0, w.alloc (.cells #[.int .i64 0, .int .i64 0, .int .i64 0] 30) = w0 := ⟨_, rfl⟩
  have hb0 : Below w.heap.size w w0 := by rw [← hw0]; exact new_below _ _
  have hN : w0.heap[w.heap.size]? = some (.cells #[.int .i64 0, .int .i64 0, .int .i64 0] 30 (0, 0)) := by rw [← hw0]; exact heap_alloc_new w _
  obtain ⟨⟨d0, d1, d2⟩, g0, g1, g2⟩ := cells3 hN
  have hp := put3_all hN (.int .i64 0) (.int .i64 0) (.int .i64 0)
  have HF := boxed (hb0.trans (grown_below hp.2.1 (Nat.le_refl _) hb0.size))
  have HQ := boxed hp.1
  clear hb0 hN hp
  have hn1 := ln_len s
  by_cases c1 : outb s.size a a = true
  · have he : insE (ln s) a m.size = 30 := by unfold insE; rw [hn1, if_pos c1]
    rw [he]
    have c1' := c1
    unfold outb at c1'
    clear he hno c1
    by_cases c2 : a < 0
    · go_enter Try.func30, Try.ntmps30
      go_wp2
      refine bodyPost_ret (v := .tuple #[.string s, itv 0 0 0, .int .i64 30]) (by simp [results, Try.results30, go_sem, HQ.out.1, HQ.out.2.1, HQ.out.2.2]) rfl ⟨rfl, HF.out⟩
    · have c3 : (s.size : Int) < a := by simp at c1'; omega
      clear c1'
      go_enter Try.func30, Try.ntmps30
      go_wp2
      refine bodyPost_ret (v := .tuple #[.string s, itv 0 0 0, .int .i64 30]) (by simp [results, Try.results30, go_sem, HQ.out.1, HQ.out.2.1, HQ.out.2.2]) rfl ⟨rfl, HF.out⟩
  · obtain ⟨a1, -, a2⟩ := (outb_iff _ _ _).1 (by simpa using c1 : outb s.size a a = false)
    by_cases c2 : m.size = 0
    · have he : insE (ln s) a m.size = 0 := by unfold insE; rw [hn1, if_neg c1, if_pos c2]
      rw [he]
      obtain rfl : m = ⟨#[]⟩ := by
        obtain ⟨d⟩ := m
        have : d = #[] := Array.eq_empty_of_size_eq_zero c2
        rw [this]
      clear he hno c1 c2
      go_enter Try.func30, Try.ntmps30
      go_wp2
      refine bodyPost_ret (v := .tuple #[.string s, itv 0 0 0, .int .i64 0]) (by simp [results, Try.results30, go_sem, HQ.out.1, HQ.out.2.1, HQ.out.2.2]) rfl ⟨rfl, HF.out⟩
    · have c3 : 65536 - s.size < m.size := by
        by_cases c3 : 65536 - s.size < m.size
        · exact c3
        · rcases hno with hno | hno
          · exact absurd (by unfold insE; rw [hn1, if_neg c1, if_neg c2, if_neg c3]) hno
          · exact absurd hno c2
      have he : insE (ln s) a m.size = 31 := by unfold insE; rw [hn1, if_neg c1, if_neg c2, if_pos c3]
      rw [he]
      have hE := ne_isEmpty m c2
      have tl : decide ((65536 : Int) - (s.size : Int) < (m.size : Int)) = true := decide_eq_true (by omega)
      clear he hno c1 c2 c3
      go_enter Try.func30, Try.ntmps30
      go_wp2
      refine bodyPost_ret (v := .tuple #[.string s, itv 0 0 0, .int .i64 31]) (by simp [results, Try.results30, go_sem, HQ.out.1, HQ.out.2.1, HQ.out.2.2]) rfl ⟨rfl, HF.out⟩

theorem rinsert_any (s : ByteArray) (a : Int) (m : ByteArray) (w : World) (hs : s.size ≤ 65536) (hsz : m.size ≤ 65536) :
    Calls Try.prog 30 #[.string s, .int .i64 a, .string m] w fun e w' => RefP w (insR s a m) (insF (ln s) a (ln m)) (insO (ln s) a (ln m)) (insN (ln s) a (ln m)) (insE (ln s) a m.size) e w' := by
  have hl := ln_len m
  by_cases hno : insE (ln s) a m.size ≠ 0 ∨ m.size = 0
  · have := rinsert_none s a m w hs hsz hno
    have e : insL (ln s) a (ln m) = ln s ∧ insF (ln s) a (ln m) = 0 ∧ insO (ln s) a (ln m) = 0 ∧ insN (ln s) a (ln m) = 0 := by
      rcases hno with hno | hno
      · exact ins_bad (by rw [hl]; exact hno)
      · exact ins_none (by rw [hl]; exact hno)
    obtain ⟨e1, e2, e3, e4⟩ := e
    have e5 : insR s a m = s := by unfold insR; rw [if_neg (fun c => by rcases hno with h | h; exact h c.1; exact c.2 h)]
    rw [e2, e3, e4, e5]
    exact this
  · have h0 : m.size ≠ 0 := fun h => hno (.inr h)
    have he : insE (ln s) a m.size = 0 := by
      by_cases c : insE (ln s) a m.size = 0
      · exact c
      · exact absurd (.inl c) hno
    have hc : outb s.size a a = false ∧ ¬ 65536 - s.size < m.size := by
      have he' := he
      unfold insE at he'
      rw [ln_len] at he'
      by_cases c1 : outb s.size a a = true
      · rw [if_pos c1] at he'; omega
      · rw [if_neg c1, if_neg h0] at he'
        by_cases c3 : 65536 - s.size < m.size
        · rw [if_pos c3] at he'; omega
        · exact ⟨by simpa using c1, c3⟩
    obtain ⟨a1, -, a2⟩ := (outb_iff _ _ _).1 hc.1
    obtain ⟨k, rfl⟩ : ∃ k : Nat, a = k := ⟨a.toNat, by omega⟩
    have := rinsert_ok s k m w (by omega) h0 (by omega)
    unfold insR insF insO insN
    rw [hl, if_pos ⟨he, h0⟩, if_pos ⟨he, h0⟩, if_pos ⟨he, h0⟩, if_pos ⟨he, h0⟩, he]
    refine this.mono ?_
    rintro e w' ⟨r, -, rfl, h2⟩
    exact h2
end Go.Proofs.Ytholifolkimkdaa
