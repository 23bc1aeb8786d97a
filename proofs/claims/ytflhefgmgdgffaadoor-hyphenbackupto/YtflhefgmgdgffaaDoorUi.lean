/-
  What the document's IsRune, Bytes, value, begins and Read answer: the bytes of every rune in new memory; the number that the bytes at a place would write; the rune at a place and how many bytes it has, -1 and 0, if none begins there.
-/
import Derived.Test.YtflhefgmgdgffaaDoorUg
namespace Go.Proofs.YtflhefgmgdgffaaDoor
open Go.RowKit
set_option linter.unusedSimpArgs false
set_option linter.unusedVariables false

theorem info_int : (Tryd.prog.info? 3).map (fun i => (i.zero, i.size, i.bytes)) = some (some (.int .i64 0), 1, 8) := by kernel_rfl

/-- Numbers as they lie in memory. -/
def vals (l : List Nat) : List Value := l.map fun (d : Nat) => Value.int .i64 (d : Int)
theorem vals_len (l : List Nat) : (vals l).length = l.length := by simp [vals]
theorem vals_get (l : List Nat) (j : Nat) (h : j < l.length) : (vals l)[j]? = some (.int .i64 ((l.getD j 0 : Nat) : Int)) := by
  simp [vals, h]
theorem vals_snoc (l : List Nat) (x : Nat) : vals l ++ [.int .i64 (x : Int)] = vals (l ++ [x]) := by simp [vals]

/-- The address leads to the numbers: nothing is asked of it where there is none. -/
def Dg (w : World) (ao : Option Addr) (cap : Nat) (l : List Nat) : Prop :=
  (l.length ≤ cap ∧ cap ≤ maxLen) ∧ (l = [] ∨ ∃ b off, ao = some ⟨b, off, none⟩ ∧ b < w.heap.size ∧ ∀ i, i < l.length → w.cell? ⟨b, off + i, none⟩ = some (.int .i64 ((l.getD i 0 : Nat) : Int)))

theorem Dg.below {w w' : World} {ao : Option Addr} {cap : Nat} {l : List Nat} (h : Dg w ao cap l) (hb : Below w.heap.size w w') : Dg w' ao cap l := by
  obtain ⟨hc, h⟩ := h
  refine ⟨hc, ?_⟩
  rcases h with h | ⟨b, off, h1, h2, h3⟩
  · exact Or.inl h
  · refine Or.inr ⟨b, off, h1, Nat.lt_of_lt_of_le h2 hb.size, fun i hi => ?_⟩
    rw [hb.cell (p := ⟨b, off + i, none⟩) h2]
    exact h3 i hi

theorem dg_of_owns {w : World} {base n : Nat} {v : Value} {l : List Nat} (h : w.ownsRow base 3 1 v n (vals l)) : n = l.length ∧ ∃ ao cap, v = .slice ao l.length cap ∧ Dg w ao cap l := by
  have hl : l.length = n := by have := h.1; rw [vals_len] at this; omega
  refine ⟨hl.symm, ?_⟩
  subst hl
  rcases h.2 with ⟨rfl, h0⟩ | ⟨g, cap, cur, rfl, hg, hh, hle, hm, hc, ht⟩
  · have : l = [] := List.eq_nil_of_length_eq_zero h0
    subst this
    exact ⟨none, 0, rfl, ⟨by simp, by unfold maxLen; omega⟩, Or.inl rfl⟩
  · refine ⟨some ⟨g, 0, none⟩, cap, rfl, ⟨hle, hm⟩, Or.inr ⟨g, 0, rfl, ?_, fun i hi => ?_⟩⟩
    · exact (h.lt g rfl).2
    · have := h.cellAt i (by omega)
      rw [Nat.zero_add, this, vals_get l i hi]

theorem isrune_any (r : Int) (w : World) :
    Calls Tryd.prog 52 #[.int .i64 r] w fun e w' => e = .returned (.bool (isR r)) ∧ w' = w := by
  unfold isR
  by_cases h1 : 0 ≤ r
  all_goals
    by_cases h2 : r ≤ 1114111
    all_goals
      by_cases h3 : r < 55296
      all_goals
        go_enter Tryd.func52, Tryd.ntmps52
        go_wp2
        go_ret
        exact ⟨ret_bool (by simp [h1, h2, h3] <;> omega), rfl⟩

/-- The bytes of a rune. -/
def byts (r : Nat) : List Nat :=
  if isR (r : Int) = false then [] else if r < 128 then [r] else if r < 2048 then [192 + r / 64, 128 + r % 64]
  else if r < 65536 then [224 + r / 4096, 128 + r / 64 % 64, 128 + r % 64] else [240 + r / 262144, 128 + r / 4096 % 64, 128 + r / 64 % 64, 128 + r % 64]

theorem dg_lit (w : World) (cs : Array Value) (l : List Nat) (h : cs.toList = vals l) (hl : l.length ≤ 4) : Dg (w.alloc (.cells cs 3)) (some ⟨w.heap.size, 0, none⟩) l.length l := by
  have hz : cs.size = l.length := by rw [← Array.length_toList, h, vals_len]
  have ho := World.ownsRow_lit (base := w.heap.size) (e := 3) (size := 1) w cs l.length (Nat.le_refl _) (by unfold maxLen; omega) (by omega)
  refine ⟨⟨Nat.le_refl _, by unfold maxLen; omega⟩, Or.inr ⟨w.heap.size, 0, rfl, by simp, fun i hi => ?_⟩⟩
  have := ho.cellAt i (by omega)
  rw [Nat.zero_add, this, h, vals_get l i hi]

set_option maxRecDepth 100000 in
set_option maxHeartbeats 1600000 in
theorem bytes_any (r : Nat) (w : World) (hr : r ≤ 4194304) :
    Calls Tryd.prog 39 #[.int .i64 (r : Int)] w fun e w' => ∃ ao cap, e = .returned (.slice ao (byts r).length cap) ∧ Dg w' ao cap (byts r) ∧ Below w.heap.size w w' := by
  have hI := isrune_any (r : Int) w
  cases hx : isR (r : Int) with
  | false =>
    have hv : Box (byts r = []) := boxed (by unfold byts; rw [if_pos hx])
    rw [hx] at hI
    go_enter Tryd.func39, Tryd.ntmps39
    go_wp2_with (go_at_call 52; refine hI.mono ?_; rintro e w' ⟨rfl, hw'⟩; subst w')
    go_ret
    rw [hv.out]
    exact ⟨none, 0, rfl, ⟨⟨by simp, by unfold maxLen; omega⟩, Or.inl rfl⟩, Below.refl _ _⟩
  | true =>
    rw [hx] at hI
    have hnx : ¬ isR (r : Int) = false := by rw [hx]; simp
    by_cases h1 : r < 128
    · have hv : Box (byts r = [r]) := boxed (by unfold byts; rw [if_neg hnx, if_pos h1])
      clear hnx hx
      go_enter Tryd.func39, Tryd.ntmps39
      go_wp2_with (go_at_call 52; refine hI.mono ?_; rintro e w' ⟨rfl, hw'⟩; subst w')
      go_ret
      rw [hv.out]
      exact ⟨_, _, rfl, dg_lit _ _ _ (by simp [vals]) (by simp), (Below.refl _ _).alloc (Nat.le_refl _) _⟩
    by_cases h2 : r < 2048
    · have hv : Box (byts r = [192 + r / 64, 128 + r % 64]) := boxed (by unfold byts; rw [if_neg hnx, if_neg h1, if_pos h2])
      clear hnx hx
      go_enter Tryd.func39, Tryd.ntmps39
      go_wp2_with (go_at_call 52; refine hI.mono ?_; rintro e w' ⟨rfl, hw'⟩; subst w')
      go_ret
      rw [hv.out]
      exact ⟨_, _, rfl, dg_lit _ _ _ (by simp [vals]) (by simp), (Below.refl _ _).alloc (Nat.le_refl _) _⟩
    have d1 : decide ((r : Int) < 128) = false := decide_eq_false (by omega)
    have d2 : decide ((r : Int) < 2048) = false := decide_eq_false (by omega)
    have z0 : (0 : Int) ≤ (r : Int) := by omega
    have z1 : (r : Int) ≤ 4194304 := by omega
    by_cases h3 : r < 65536
    · have d3 : decide ((r : Int) < 65536) = true := decide_eq_true (by omega)
      have hv : Box (byts r = [224 + r / 4096, 128 + r / 64 % 64, 128 + r % 64]) := boxed (by unfold byts; rw [if_neg hnx, if_neg h1, if_neg h2, if_pos h3])
      clear hnx hx h1 h2 h3 hr
      go_enter Tryd.func39, Tryd.ntmps39
      go_wp2_with (go_at_call 52; refine hI.mono ?_; rintro e w' ⟨rfl, hw'⟩; subst w')
      go_ret
      rw [hv.out]
      exact ⟨_, _, rfl, dg_lit _ _ _ (by simp [vals]) (by simp), (Below.refl _ _).alloc (Nat.le_refl _) _⟩
    · have d3 : decide ((r : Int) < 65536) = false := decide_eq_false (by omega)
      have hv : Box (byts r = [240 + r / 262144, 128 + r / 4096 % 64, 128 + r / 64 % 64, 128 + r % 64]) := boxed (by unfold byts; rw [if_neg hnx, if_neg h1, if_neg h2, if_neg h3])
      clear hnx hx h1 h2 h3 hr
      go_enter Tryd.func39, Tryd.ntmps39
      go_wp2_with (go_at_call 52; refine hI.mono ?_; rintro e w' ⟨rfl, hw'⟩; subst w')
      go_ret
      rw [hv.out]
      exact ⟨_, _, rfl, dg_lit _ _ _ (by simp [vals]) (by simp), (Below.refl _ _).alloc (Nat.le_refl _) _⟩

theorem idx (s : ByteArray) (k : Nat) (h : k < s.size) (i : Int) (e : i = (k : Int)) (w : World) : (Instr.index 9 (.string s) (.int .i64 i)).run Tryd.prog w = .ok (.int .u8 (bt s k : Int)) w := by
  subst e
  rw [run_index_string w 9 s .i64 (k : Int) Tryd.underlying9, dif_pos ⟨by omega, by omega⟩, bt_in s k h]
  simp

/-- What as many bytes from a place on would write. -/
def vv (s : ByteArray) (a : Nat) : Nat → Nat
  | 1 => bt s a
  | 2 => bt s a % 32 * 64 + bt s (a + 1) % 64
  | 3 => (bt s a % 16 * 64 + bt s (a + 1) % 64) * 64 + bt s (a + 2) % 64
  | 4 => ((bt s a % 8 * 64 + bt s (a + 1) % 64) * 64 + bt s (a + 2) % 64) * 64 + bt s (a + 3) % 64
  | _ => 0

set_option maxRecDepth 100000 in
set_option maxHeartbeats 1600000 in
theorem value_any (s : ByteArray) (a n : Nat) (w : World) (hs : s.size ≤ 1048576) (hn : 1 ≤ n ∧ n ≤ 4) (ha : a + n ≤ s.size) :
    Calls Tryd.prog 38 #[.string s, .int .i64 (a : Int), .int .i64 (n : Int)] w fun e w' => e = .returned (.int .i64 (vv s a n : Int)) ∧ w' = w := by
  have i0 := idx s a (by omega) (a : Int) rfl
  have b0 := bt_lt s a (by omega)
  have hc : n = 1 ∨ n = 2 ∨ n = 3 ∨ n = 4 := by omega
  rcases hc with rfl | rfl | rfl | rfl
  · go_enter Tryd.func38, Tryd.ntmps38
    go_wp2
    go_ret
    exact ⟨rfl, rfl⟩
  · have i1 := idx s (a + 1) (by omega) ((a : Int) + 1) (by omega)
    have b1 := bt_lt s (a + 1) (by omega)
    have HV : Box (vv s a 2 = bt s a % 32 * 64 + bt s (a + 1) % 64) := boxed rfl
    generalize bt s a = x0 at *
    generalize bt s (a + 1) = x1 at *
    go_enter Tryd.func38, Tryd.ntmps38
    go_wp2
    refine wp_loop_rounds 2 ?_
    rw [rounds_succ]
    go_wp2
    rw [rounds_succ]
    go_wp2
    go_ret
    exact ⟨ret_int (by rw [HV.out]; omega), rfl⟩
  · have i1 := idx s (a + 1) (by omega) ((a : Int) + 1) (by omega)
    have i2 := idx s (a + 2) (by omega) ((a : Int) + 2) (by omega)
    have b1 := bt_lt s (a + 1) (by omega)
    have b2 := bt_lt s (a + 2) (by omega)
    have HV : Box (vv s a 3 = (bt s a % 16 * 64 + bt s (a + 1) % 64) * 64 + bt s (a + 2) % 64) := boxed rfl
    generalize bt s a = x0 at *
    generalize bt s (a + 1) = x1 at *
    generalize bt s (a + 2) = x2 at *
    go_enter Tryd.func38, Tryd.ntmps38
    go_wp2
    refine wp_loop_rounds 3 ?_
    rw [rounds_succ]
    go_wp2
    rw [rounds_succ]
    go_wp2
    rw [rounds_succ]
    go_wp2
    go_ret
    exact ⟨ret_int (by rw [HV.out]; omega), rfl⟩
  · have i1 := idx s (a + 1) (by omega) ((a : Int) + 1) (by omega)
    have i2 := idx s (a + 2) (by omega) ((a : Int) + 2) (by omega)
    have i3 := idx s (a + 3) (by omega) ((a : Int) + 3) (by omega)
    have b1 := bt_lt s (a + 1) (by omega)
    have b2 := bt_lt s (a + 2) (by omega)
    have b3 := bt_lt s (a + 3) (by omega)
    have HV : Box (vv s a 4 = ((bt s a % 8 * 64 + bt s (a + 1) % 64) * 64 + bt s (a + 2) % 64) * 64 + bt s (a + 3) % 64) := boxed rfl
    generalize bt s a = x0 at *
    generalize bt s (a + 1) = x1 at *
    generalize bt s (a + 2) = x2 at *
    generalize bt s (a + 3) = x3 at *
    go_enter Tryd.func38, Tryd.ntmps38
    go_wp2
    refine wp_loop_rounds 4 ?_
    rw [rounds_succ]
    go_wp2
    rw [rounds_succ]
    go_wp2
    rw [rounds_succ]
    go_wp2
    rw [rounds_succ]
    go_wp2
    go_ret
    exact ⟨ret_int (by rw [HV.out]; omega), rfl⟩
end Go.Proofs.YtflhefgmgdgffaaDoor
