/-
  The style near a place: what the program's Near answers.
-/
import Derived.Test.YtdchpiihjjjpfabLc
namespace Go.Proofs.Ytdchpiihjjjpfab
open Go.RowKit
set_option linter.unusedSimpArgs false
set_option linter.unusedVariables false

/-- The style near a place. -/
def nr (s : List Int) (bare a : Int) : Int := if outb s.length a a = true then 0 else if s.length = 0 then bare else s.getD (a - 1).toNat 0
def ofs (b : Bool) : Int := if b = true then 30 else 0

section
variable {w : World} {lb : Nat} {ao : Option Addr} {cap : Nat} {s : List Int} {bare : Int}

set_option maxRecDepth 100000 in
set_option maxHeartbeats 2000000 in
theorem near_any (h : ListAt w lb ao cap s bare) (a : Int) (ha : I64 a) : Calls Try.prog 37 #[.pointer (some ⟨lb, 0, none⟩), .int .i64 a] w fun e w' =>
    e = .returned (.tuple #[.int .i64 (nr s bare a), .int .i64 (ofs (outb s.length a a))]) ∧ Below w.heap.size w w' := by
  have ho := outside_any h a a
  have hs := fun w' (hb : Below w.heap.size w w') => len_any (h.below hb)
  unfold nr ofs
  by_cases c : outb s.length a a = true
  · rw [if_pos c, if_pos c]
    rw [c] at ho
    clear h hs
    go_enter Try.func37, Try.ntmps37
    go_wp2_with fail
    refine ho.mono ?_
    rintro e w1 ⟨rfl, hb1⟩
    clear ho
    go_wp2
    go_ret2
    exact ⟨rfl, hb1⟩
  · rw [if_neg c, if_neg c]
    have c' : outb s.length a a = false := by simpa using c
    obtain ⟨a1, -, a2⟩ := (outb_iff _ _ _).1 c'
    rw [c'] at ho
    clear c c'
    by_cases d : s.length = 0
    · rw [if_pos d]
      have hc := fun w' (hb : Below w.heap.size w w') => (h.below hb).c1
      clear h
      go_enter Try.func37, Try.ntmps37
      go_wp2_with fail
      refine ho.mono ?_
      rintro e w1 ⟨rfl, hb1⟩
      have hs1 := hs _ hb1
      have HB1 := boxed hb1
      clear ho hs hb1
      go_wp2_with fail
      refine hs1.mono ?_
      rintro e w2 ⟨rfl, hb2⟩
      have HB2 := boxed (below_step HB1.out (Nat.le_refl _) hb2)
      have c2 := hc _ HB2.out
      clear hs1 hb2
      have z : ((s.length : Int) == 0) = true := by simp [d]
      go_wp2
      go_ret2
      exact ⟨rfl, HB2.out⟩
    · rw [if_neg d]
      obtain ⟨k, rfl⟩ : ∃ k : Nat, a = k := ⟨a.toNat, by omega⟩
      obtain ⟨m, hm⟩ : ∃ m : Nat, k - 1 = m := ⟨_, rfl⟩
      have em : ((k : Int) - 1).toNat = m := by omega
      have em2 : max ((k : Int) - 1) 0 = (m : Int) := by omega
      have hmx : (if IntKind.i64.wrap ((k : Int) - 1) < 0 then 0 else IntKind.i64.wrap ((k : Int) - 1)) = (m : Int) := by
        have hlen := h.len
        have : IntKind.i64.wrap ((k : Int) - 1) = (k : Int) - 1 := by rw [IntKind.wrap_i64]; omega
        rw [this]; split <;> omega
      have c3 : m < s.length := by omega
      have hn : 0 < (enc s).length := by have := enc_nil s; omega
      obtain ⟨b, off, rfl, hbl⟩ := h.pts.form hn
      have hc := fun w' (hb : Below w.heap.size w w') => (h.below hb).c0
      have hh := fun w' (hb : Below w.heap.size w w') => (holder_any (· ≠ lb) (some ⟨b, off, none⟩) cap s m w' (h.pts.below hb) (by have := h.len; omega)).mono (R' := fun e w'' => ∃ q : Nat, e = .returned (.int .i64 (q : Nat)) ∧ q < (enc s).length ∧ Box (Ys (enc s) q = s.getD m 0) ∧ Below w'.heap.size w' w'') (by
        rintro e w'' ⟨q, rfl, hq, hb2⟩
        obtain ⟨q1, q2, q3⟩ := hq.resolve_left (by omega)
        exact ⟨q, rfl, q1, boxed (h.sty q1 q2 q3), hb2⟩)
      have hy := fun w' (hb : Below w.heap.size w w') q (hq : q < (enc s).length) => ((h.pts.below hb).get q hq).2
      have hl := h.len
      have hle := enc_len s
      rw [em]
      have z : ((s.length : Int) == 0) = false := by rw [beq_eq_false_iff_ne]; omega
      generalize s.getD m 0 = V at *
      generalize (enc s).length = n at *
      clear h hm em
      generalize Ys (enc s) = Y at *
      go_enter Try.func37, Try.ntmps37
      go_wp2_with fail
      refine ho.mono ?_
      rintro e w1 ⟨rfl, hb1⟩
      have hs1 := hs _ hb1
      have HB1 := boxed hb1
      clear ho hs hb1
      go_wp2_with fail
      refine hs1.mono ?_
      rintro e w2 ⟨rfl, hb2⟩
      have HB2 := boxed (below_step HB1.out (Nat.le_refl _) hb2)
      clear hs1 hb2
      go_wp2_with fail
      have HB0 : Box (Below w.heap.size w w2.drew) := boxed (HB2.out.trans ((Below.refl _ _).drew))
      go_region_held3 (fun w' => w'.cell? ⟨lb, 0, none⟩ = some (.slice (some ⟨b, off, none⟩) n cap) ∧ ∀ q, q < n → w'.cell? ⟨b, off + q * 2 + 1, none⟩ = some (.int .i64 (Y q)))
        (first | with_reducible exact ⟨hc _ HB0.out, hy _ HB0.out⟩ | with_reducible exact ⟨hc _ HB5.out, hy _ HB5.out⟩)
        (first | (go_at_call 43; refine (hh _ HB0.out).mono ?_; rintro e w5 ⟨q, rfl, hq, cq, hb5⟩; have HB5 := boxed (HB0.out.trans (hb5.mono HB0.out.size)); clear hb5 hh))
      go_wp2
      go_ret2
      exact ⟨by rw [cq.out]; rfl, HB5.out⟩
end
end Go.Proofs.Ytdchpiihjjjpfab
