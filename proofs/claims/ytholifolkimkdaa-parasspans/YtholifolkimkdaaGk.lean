/-
  What the program's Insert answers, whatever it is asked.
-/
import Derived.Test.YtholifolkimkdaaGj
namespace Go.Proofs.Ytholifolkimkdaa
open Go.RowKit
set_option linter.unusedSimpArgs false
set_option linter.unusedVariables false

section
variable {w : World} {xb : Nat} {ao : Option Addr} {cap : Nat} {l : List Bool}
/-- What an edit of the index leaves: an interval and a number told, the text's index, new rows or those that were. -/
def EdP (w : World) (xb : Nat) (ao : Option Addr) (cap : Nat) (l l' : List Bool) (f k n c : Nat) (e : Ending) (w' : World) : Prop :=
  e = .returned (.tuple #[itv f k n, .int .i64 (c : Nat)]) ∧ w.grownBy w' (some xb) ∧ ∃ ao' cap', TxAt w' xb ao' cap' l' ∧ ((ao' = ao ∧ cap' = cap ∧ l' = l) ∨ NAt (fun b => w.heap.size ≤ b) w' ao' (ens 0 (sp l')))
theorem EdP.none {w w' : World} {xb : Nat} {ao : Option Addr} {cap : Nat} {l : List Bool} {c : Nat} (h : TxAt w xb ao cap l) (hb : Below w.heap.size w w') : EdP w xb ao cap l l 0 0 0 c (.returned (.tuple #[itv 0 0 0, .int .i64 (c : Nat)])) w' :=
  ⟨rfl, below_grown hb _, ao, cap, h.below hb, .inl ⟨rfl, rfl, rfl⟩⟩

set_option maxRecDepth 100000 in
set_option maxHeartbeats 2000000 in
theorem insert_none (h : TxAt w xb ao cap l) (a : Int) (s : ByteArray) (hsz : s.size ≤ 65536) (hno : insE l a s.size ≠ 0 ∨ s.size = 0) :
    Calls Try.prog 22 #[.pointer (some ⟨xb, 0, none⟩), .int .i64 a, .string s] w fun e w' => EdP w xb ao cap l l 0 0 0 (insE l a s.size) e w' := by
  obtain ⟨w0, hw0⟩ : ∃ w0, w.alloc (.cells #[.int .i64 0, .int .i64 0, .int .i64 0] 30) = w0 := ⟨_, rfl⟩
  have hb0 : Below w.heap.size w w0 := by rw [← hw0]; exact new_below _ _
  have hzs0 : w0.heap.size = w.heap.size + 1 := by rw [← hw0]; exact new_size _ _
  have HN : Box (∀ W, Below w0.heap.size w0 W → W.heap[w.heap.size]? = some (.cells #[.int .i64 0, .int .i64 0, .int .i64 0] 30 (0, 0))) := boxed (fun W hb => by rw [hb.block w.heap.size (by omega), ← hw0]; exact heap_alloc_new w _)
  have HB0 := boxed hb0
  have hsum := sp_sum l
  have hll : l.length ≤ 65536 := by have := h.len; omega
  have hout := outside_any (h.below hb0) a a
  rw [hsum] at hout
  have HSz := boxed (fun W (hb : Below w0.heap.size w0 W) => size_any ((h.below hb0).below hb))
  rw [hsum] at HSz
  have HH := boxed h
  have HF : Box (∀ W, Below w0.heap.size w0 W → EdP w xb ao cap l l 0 0 0 (insE l a s.size) (.returned (.tuple #[itv 0 0 0, .int .i64 (insE l a s.size : Nat)])) (((W.setCell ⟨w.heap.size, 0, none⟩ (.int .i64 0)).setCell ⟨w.heap.size, 1, none⟩ (.int .i64 0)).setCell ⟨w.heap.size, 2, none⟩ (.int .i64 0))) := boxed (fun W hb => by
    have hp := put3_all (HN.out W hb) (.int .i64 0) (.int .i64 0) (.int .i64 0)
    have h1 : Below w.heap.size w W := HB0.out.trans (hb.mono (by omega))
    exact EdP.none HH.out (h1.trans (grown_below hp.2.1 (Nat.le_refl _) h1.size)))
  have HQ : Box (∀ W, Below w0.heap.size w0 W → _) := boxed (fun W hb => (put3_all (HN.out W hb) (.int .i64 0) (.int .i64 0) (.int .i64 0)).1)
  clear h hb0
  by_cases c1 : outb l.length a a = true
  · rw [c1] at hout
    have he : insE l a s.size = 30 := by unfold insE; rw [if_pos c1]
    rw [he] at HF
    rw [he]
    clear he hno c1
    go_enter Try.func22, Try.ntmps22
    go_wp2_with fail
    refine hout.mono ?_
    rintro e w1 ⟨rfl, hb1⟩
    obtain ⟨⟨d0, d1, d2⟩, g0, g1, g2⟩ := cells3 (HN.out _ hb1)
    have HD1 := boxed hb1
    clear hout hb1
    go_wp2
    refine bodyPost_ret (v := .tuple #[itv 0 0 0, .int .i64 30]) (by simp [results, Try.results22, go_sem, (HQ.out _ HD1.out).1, (HQ.out _ HD1.out).2.1, (HQ.out _ HD1.out).2.2]) rfl ?_
    exact HF.out _ HD1.out
  · have c1' : outb l.length a a = false := by simpa using c1
    rw [c1'] at hout
    by_cases c2 : s.size = 0
    · have he : insE l a s.size = 0 := by unfold insE; rw [if_neg c1, if_pos c2]
      rw [he] at HF
      rw [he]
      obtain rfl : s = ⟨#[]⟩ := by
        obtain ⟨d⟩ := s
        have : d = #[] := Array.eq_empty_of_size_eq_zero c2
        rw [this]
      clear he hno c1 c1' c2
      go_enter Try.func22, Try.ntmps22
      go_wp2_with fail
      refine hout.mono ?_
      rintro e w1 ⟨rfl, hb1⟩
      obtain ⟨⟨d0, d1, d2⟩, g0, g1, g2⟩ := cells3 (HN.out _ hb1)
      have HD1 := boxed hb1
      clear hout hb1
      go_wp2
      refine bodyPost_ret (v := .tuple #[itv 0 0 0, .int .i64 0]) (by simp [results, Try.results22, go_sem, (HQ.out _ HD1.out).1, (HQ.out _ HD1.out).2.1, (HQ.out _ HD1.out).2.2]) rfl ?_
      exact HF.out _ HD1.out
    · have c3 : 65536 - l.length < s.size := by
        by_cases c3 : 65536 - l.length < s.size
        · exact c3
        · rcases hno with hno | hno
          · exact absurd (by unfold insE; rw [if_neg c1, if_neg c2, if_neg c3]) hno
          · exact absurd hno c2
      have he : insE l a s.size = 31 := by unfold insE; rw [if_neg c1, if_neg c2, if_pos c3]
      rw [he] at HF
      rw [he]
      have hE := ne_isEmpty s c2
      have tl : decide ((65536 : Int) - (l.length : Int) < (s.size : Int)) = true := decide_eq_true (by omega)
      clear he hno c1 c1' c2 c3
      go_enter Try.func22, Try.ntmps22
      go_wp2_with fail
      refine hout.mono ?_
      rintro e w1 ⟨rfl, hb1⟩
      have HD1 := boxed hb1
      clear hout hb1
      go_wp2_with fail
      refine (HSz.out _ HD1.out).mono ?_
      rintro e w2 ⟨rfl, hb2⟩
      have HD2 := boxed (below_step HD1.out (Nat.le_refl _) hb2)
      obtain ⟨⟨d0, d1, d2⟩, g0, g1, g2⟩ := cells3 (HN.out _ HD2.out)
      clear hb2 HSz
      go_wp2
      refine bodyPost_ret (v := .tuple #[itv 0 0 0, .int .i64 31]) (by simp [results, Try.results22, go_sem, (HQ.out _ HD2.out).1, (HQ.out _ HD2.out).2.1, (HQ.out _ HD2.out).2.2]) rfl ?_
      exact HF.out _ HD2.out

theorem insert_any (h : TxAt w xb ao cap l) (a : Int) (s : ByteArray) (hsz : s.size ≤ 65536) :
    Calls Try.prog 22 #[.pointer (some ⟨xb, 0, none⟩), .int .i64 a, .string s] w fun e w' => EdP w xb ao cap l (insL l a (ln s)) (insF l a (ln s)) (insO l a (ln s)) (insN l a (ln s)) (insE l a s.size) e w' := by
  have hl := ln_len s
  by_cases hno : insE l a s.size ≠ 0 ∨ s.size = 0
  · have := insert_none h a s hsz hno
    have e : insL l a (ln s) = l ∧ insF l a (ln s) = 0 ∧ insO l a (ln s) = 0 ∧ insN l a (ln s) = 0 := by
      rcases hno with hno | hno
      · exact ins_bad (by rw [hl]; exact hno)
      · exact ins_none (by rw [hl]; exact hno)
    obtain ⟨e1, e2, e3, e4⟩ := e
    rw [e1, e2, e3, e4]
    exact this
  · have h0 : s.size ≠ 0 := fun h => hno (.inr h)
    have he : insE l a s.size = 0 := by
      by_cases c : insE l a s.size = 0
      · exact c
      · exact absurd (.inl c) hno
    have hc : outb l.length a a = false ∧ ¬ 65536 - l.length < s.size := by
      unfold insE at he
      by_cases c1 : outb l.length a a = true
      · rw [if_pos c1] at he; omega
      · rw [if_neg c1, if_neg h0] at he
        by_cases c3 : 65536 - l.length < s.size
        · rw [if_pos c3] at he; omega
        · exact ⟨by simpa using c1, c3⟩
    obtain ⟨a1, -, a2⟩ := (outb_iff _ _ _).1 hc.1
    obtain ⟨k, rfl⟩ : ∃ k : Nat, a = k := ⟨a.toNat, by omega⟩
    have hll : l.length ≤ 65536 := by have := h.len; have := sp_sum l; omega
    have := insert_ok h k s (by omega) h0 (by omega)
    unfold insL insF insO insN
    rw [hl, if_pos he, if_pos ⟨he, h0⟩, if_pos ⟨he, h0⟩, if_pos ⟨he, h0⟩, he]
    refine this.mono ?_
    rintro e w' ⟨rfl, ao', cap', h1, h2, h3⟩
    exact ⟨rfl, h3, ao', cap', h1, .inr h2⟩
end
end Go.Proofs.Ytholifolkimkdaa
