/-
  What the program's New, Count, Runs, Slice and Copy do.
-/
import Derived.Test.YtdchpiihjjjpfabLg
import Derived.Test.YtdchpiihjjjpfabLd
import Derived.Test.YtdchpiihjjjpfabLj
namespace Go.Proofs.Ytdchpiihjjjpfab
open Go.RowKit
set_option linter.unusedSimpArgs false
set_option linter.unusedVariables false

def newE (n st : Int) : Int := if n < 0 ∨ 65536 < n then 1 else if stb st = true then 0 else 43
/-- A list that is laid in a new block. -/
theorem list_new {B : Nat} {w w1 : World} {ao : Option Addr} {cap : Nat} {s : List Int} {bare : Int} (hB : B ≤ w1.heap.size) (hown : w1.ownsRow B 72 2 (.slice ao (enc s).length cap) (enc s).length (pcs 0 (enc s))) (hs : Sok s) (hl : s.length ≤ 65536) (hb : 0 ≤ bare ∧ bare < 32) :
    ListAt (w1.alloc (.cells #[.slice ao (enc s).length cap, .int .i64 bare] 57)) w1.heap.size ao cap s bare ∧ PartsAt (fun b => B ≤ b) (w1.alloc (.cells #[.slice ao (enc s).length cap, .int .i64 bare] 57)) ao s := by
  have hp := own_parts hown (by omega) (fun y hy => by have := hs y hy; exact ⟨by omega, by omega⟩)
  have hb1 := (Below.refl w1.heap.size w1).alloc (Nat.le_refl _) (.cells #[.slice ao (enc s).length cap, .int .i64 bare] 57)
  refine ⟨⟨heap_alloc_new _ _, hp.keep (fun k i u hk hc => ⟨?_, hold hb1 hc⟩), hs, hl, hb⟩, hp.below hb1⟩
  have := World.block_lt_of_cell? w1 ⟨k, i, none⟩ hc
  simp at this
  omega
theorem sok_rep {n : Nat} {y : Int} (h : 0 ≤ y ∧ y < 32) : Sok (List.replicate n y) := fun z hz => by rw [(List.mem_replicate.1 hz).2]; exact h

def NewP (n st : Int) (w : World) (e : Ending) (w' : World) : Prop :=
    (newE n st ≠ 0 ∧ e = .returned (.tuple #[.pointer none, .int .i64 (newE n st)]) ∧ Below w.heap.size w w') ∨
    (newE n st = 0 ∧ ∃ lb ao cap, e = .returned (.tuple #[.pointer (some ⟨lb, 0, none⟩), .int .i64 0]) ∧ w.heap.size ≤ lb ∧ ListAt w' lb ao cap (List.replicate n.toNat st) st ∧ Below w.heap.size w w')
theorem NewP.bad {n st : Int} {w w' : World} {c : Int} (h : newE n st = c) (hc : c ≠ 0) (hb : Below w.heap.size w w') : NewP n st w (.returned (.tuple #[.pointer none, .int .i64 c])) w' := .inl ⟨by rw [h]; exact hc, by rw [h], hb⟩

set_option maxRecDepth 100000 in
set_option maxHeartbeats 2000000 in
theorem new_any (n st : Int) (w : World) (hn : I64 n) : Calls Try.prog 17 #[.int .i64 n, .int .i64 st] w fun e w' => NewP n st w e w' := by
  by_cases c1 : n < 0
  · have HE : Box (newE n st = 1) := boxed (by unfold newE; rw [if_pos (.inl c1)])
    go_enter Try.func17, Try.ntmps17
    go_wp2
    go_ret2
    exact NewP.bad HE.out (by omega) (Below.refl _ _)
  · by_cases c2 : 65536 < n
    · have HE : Box (newE n st = 1) := boxed (by unfold newE; rw [if_pos (.inr c2)])
      go_enter Try.func17, Try.ntmps17
      go_wp2
      go_ret2
      exact NewP.bad HE.out (by omega) (Below.refl _ _)
    · have hst := isStyle_any st
      by_cases c3 : stb st = true
      · have HE : Box (newE n st = 0) := boxed (by unfold newE; rw [if_neg (by omega), if_pos c3])
        rw [c3] at hst
        have hy := (stb_iff st).1 c3
        obtain ⟨m, rfl⟩ : ∃ m : Nat, n = m := ⟨n.toNat, by omega⟩
        have HA := boxed (fun (w1 : World) (hb1 : Below w.heap.size w w1) => add_any w.heap.size (.slice none 0 0) [] m st w1 (World.ownsRow_nil _ _ _ _) (by simp) (by simp) (by omega) ⟨by omega, by omega⟩ hb1.size)
        rw [List.nil_append] at HA
        have HQ : Box (List.replicate ((m : Int)).toNat st = List.replicate m st) := boxed (by simp)
        clear c3
        go_enter Try.func17, Try.ntmps17
        go_wp2_with (go_at_call 23; refine (hst _).mono ?_; rintro e w1' ⟨rfl, hw'⟩; subst w1')
        refine (HA.out _ (Below.refl _ _)).mono ?_
        rintro e w1 ⟨v', rfl, hown, hg⟩
        obtain ⟨ao, cap, rfl⟩ : ∃ ao cap, v' = .slice ao (enc (List.replicate m st)).length cap := by
          rcases ownsRow_forms hown with ⟨g1, g2⟩ | ⟨g, cap, g1⟩
          · exact ⟨none, 0, by rw [g2]; exact g1⟩
          · exact ⟨_, _, g1⟩
        have hb1 : Below w.heap.size w w1 := ⟨hg.os, hg.tape, hg.output, hg.size, fun k hk => hg.block k hk (by simp [Value.ownBlock])⟩
        have HL := boxed (list_new (w := w) (bare := st) hb1.size hown (sok_rep hy) (by simp; omega) hy).1
        have HB := boxed (hb1.alloc hb1.size (.cells #[.slice ao (enc (List.replicate m st)).length cap, .int .i64 st] 57))
        have hz := hb1.size
        clear hown hg hb1 HA
        generalize (enc (List.replicate m st)).length = q at *
        go_wp2
        go_ret2
        exact .inr ⟨HE.out, w1.heap.size, ao, cap, rfl, hz, by rw [HQ.out]; exact HL.out, HB.out⟩
      · have c3' : stb st = false := by simpa using c3
        have HE : Box (newE n st = 43) := boxed (by unfold newE; rw [if_neg (by omega), if_neg c3])
        rw [c3'] at hst
        go_enter Try.func17, Try.ntmps17
        go_wp2_with (go_at_call 23; refine (hst _).mono ?_; rintro e w1' ⟨rfl, hw'⟩; subst w1')
        go_ret2
        exact NewP.bad HE.out (by omega) (Below.refl _ _)
section
variable {w : World} {lb : Nat} {ao : Option Addr} {cap : Nat} {s : List Int} {bare : Int}

theorem count_any (h : ListAt w lb ao cap s bare) : Calls Try.prog 14 #[.pointer (some ⟨lb, 0, none⟩)] w fun e w' => e = .returned (.int .i64 ((enc s).length : Nat)) ∧ w' = w := by
  have c0 := h.c0
  clear h
  go_enter Try.func14, Try.ntmps14
  go_wp2
  go_ret
  exact ⟨rfl, rfl⟩

set_option maxRecDepth 100000 in
theorem runs_any (h : ListAt w lb ao cap s bare) : Calls Try.prog 13 #[.pointer (some ⟨lb, 0, none⟩)] w fun e w' => ∃ v, e = .returned v ∧ w'.ownsRow w.heap.size 25 2 v (enc s).length (rcs (enc s)) ∧ Below w.heap.size w w' := by
  have hl := len_any h
  have ht := fun w' (hb : Below w.heap.size w w') => told_any (h.below hb) 0 s.length (Nat.zero_le _) (Nat.le_refl _)
  rw [sub_whole] at ht
  have HT := boxed ht
  clear h ht
  go_enter Try.func13, Try.ntmps13
  go_wp2_with fail
  refine hl.mono ?_
  rintro e w1 ⟨rfl, hb1⟩
  have HB1 := boxed hb1
  clear hb1 hl
  go_wp2_with fail
  refine (HT.out _ HB1.out).mono ?_
  rintro e w2 ⟨v, rfl, hown, hb2⟩
  have HF := boxed (And.intro (show w2.ownsRow w.heap.size _ _ _ _ _ from ⟨hown.1, hown.2.imp id (fun ⟨g, c, cu, x1, x2, x3⟩ => ⟨g, c, cu, x1, Nat.le_trans HB1.out.size x2, x3⟩)⟩) (below_step HB1.out (Nat.le_refl _) hb2))
  clear hown hb2 HT
  go_wp2
  go_ret
  exact ⟨v, rfl, HF.out⟩

/-- Slice: refused, or a part's runs. -/
def SlcP (s : List Int) (a b : Int) (w : World) (e : Ending) (w' : World) : Prop :=
  (outb s.length a b = true ∧ e = .returned (.tuple #[.slice none 0 0, .int .i64 30]) ∧ Below w.heap.size w w') ∨
  (outb s.length a b = false ∧ ∃ v, e = .returned (.tuple #[v, .int .i64 0]) ∧ w'.ownsRow w.heap.size 25 2 v (enc (sub s a.toNat b.toNat)).length (rcs (enc (sub s a.toNat b.toNat))) ∧ Below w.heap.size w w')
set_option maxRecDepth 100000 in
theorem slice_any (h : ListAt w lb ao cap s bare) (a b : Int) : Calls Try.prog 11 #[.pointer (some ⟨lb, 0, none⟩), .int .i64 a, .int .i64 b] w fun e w' => SlcP s a b w e w' := by
  have ho := outside_any h a b
  by_cases c1 : outb s.length a b = true
  · rw [c1] at ho
    have HE := boxed c1
    clear h c1
    go_enter Try.func11, Try.ntmps11
    go_wp2_with fail
    refine ho.mono ?_
    rintro e w1 ⟨rfl, hb1⟩
    clear ho
    go_wp2
    go_ret2
    exact .inl ⟨HE.out, rfl, hb1⟩
  · have c1' : outb s.length a b = false := by simpa using c1
    obtain ⟨a1, a3, a2⟩ := (outb_iff _ _ _).1 c1'
    rw [c1'] at ho
    obtain ⟨k, rfl⟩ : ∃ k : Nat, a = k := ⟨a.toNat, by omega⟩
    obtain ⟨m, rfl⟩ : ∃ m : Nat, b = m := ⟨b.toNat, by omega⟩
    have HE := boxed c1'
    have HT := boxed (fun w' (hb : Below w.heap.size w w') => told_any (h.below hb) k m (by omega) (by omega))
    clear h c1 c1'
    go_enter Try.func11, Try.ntmps11
    go_wp2_with fail
    refine ho.mono ?_
    rintro e w1 ⟨rfl, hb1⟩
    have HB1 := boxed hb1
    clear ho hb1
    go_wp2_with fail
    refine (HT.out _ HB1.out).mono ?_
    rintro e w2 ⟨v, rfl, hown, hb2⟩
    have HF := boxed (And.intro (show w2.ownsRow w.heap.size _ _ _ _ _ from ⟨hown.1, hown.2.imp id (fun ⟨g, c, cu, x1, x2, x3⟩ => ⟨g, c, cu, x1, Nat.le_trans HB1.out.size x2, x3⟩)⟩) (below_step HB1.out (Nat.le_refl _) hb2))
    clear hown hb2 HT
    go_wp2
    go_ret2
    exact .inr ⟨HE.out, v, rfl, by simpa using HF.out.1, HF.out.2⟩
end
end Go.Proofs.Ytdchpiihjjjpfab
