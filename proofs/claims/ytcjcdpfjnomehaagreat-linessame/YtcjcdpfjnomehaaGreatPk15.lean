/-
  Sums that stay within bounds, as the program's Add and the document's answer them; and how wide a right text is, as the program's Text does.
-/
import Derived.Lib.OthersKept
import Derived.Laws.AppendOwnNone
import Derived.Laws.StructEq
import Derived.Test.YtcjcdpfjnomehaaGreatPk14
import Derived.Test.YtcjcdpfjnomehaaGreatPk12
namespace Go.Proofs.YtcjcdpfjnomehaaGreat.It
open Go.RowKit
set_option linter.unusedSimpArgs false
set_option linter.unusedVariables false
def cl (a : Int) : Int := if a < -1152921504606846976 then -1152921504606846976 else if 1152921504606846976 < a then 1152921504606846976 else a
theorem cl_le (a : Int) : -1152921504606846976 ≤ cl a ∧ cl a ≤ 1152921504606846976 := by unfold cl; split <;> (try split) <;> omega
theorem cl_zero (a : Int) : cl a = 0 ↔ a = 0 := by unfold cl; split <;> (try split) <;> omega
theorem cl_same (a : Int) (h1 : -1152921504606846976 ≤ a) (h2 : a ≤ 1152921504606846976) : cl a = a := by unfold cl; split <;> (try split) <;> omega
theorem cl_cl (a : Int) : cl (cl a) = cl a := cl_same _ (cl_le a).1 (cl_le a).2
set_option maxHeartbeats 400000 in
theorem clamp_any (a : Int) (w : World) :
    Calls Tryz.prog 187 #[.int .i64 a] w fun e w' => e = .returned (.int .i64 (cl a)) ∧ w' = w := by
  unfold cl
  by_cases h1 : a < -1152921504606846976
  · go_enter Tryz.func187, Tryz.ntmps187
    go_wp2
    go_ret
    exact ⟨by simp [h1], rfl⟩
  · by_cases h2 : 1152921504606846976 < a
    · go_enter Tryz.func187, Tryz.ntmps187
      go_wp2
      go_ret
      exact ⟨by simp [h1, h2], rfl⟩
    · go_enter Tryz.func187, Tryz.ntmps187
      go_wp2
      go_ret
      exact ⟨by simp [h1, h2], rfl⟩
def ad (a b : Int) : Int := cl (cl a + cl b)
set_option maxHeartbeats 400000 in
theorem add_any (a b : Int) (w : World) :
    Calls Tryz.prog 170 #[.int .i64 a, .int .i64 b] w fun e w' => e = .returned (.int .i64 (ad a b)) ∧ w' = w := by
  unfold ad
  have h1 := cl_le a
  have h2 := cl_le b
  go_enter Tryz.func170, Tryz.ntmps170
  go_wp2_with (go_at_call 187; refine (clamp_any _ _).mono ?_; rintro e w' ⟨rfl, rfl⟩)
  go_ret
  exact ⟨rfl, rfl⟩
def txw (s : Sty) (t : ByteArray) : Nat → Int
  | 0 => 0
  | k + 1 => ad (txw s t k) (wdS s (rn t k))
end Go.Proofs.YtcjcdpfjnomehaaGreat.It

/-
  What the document's IsRune, Bytes, value, begins and Read answer: the bytes of every rune in new memory; the number that the bytes at a place would write; the rune at a place and how many bytes it has, -1 and 0, if none begins there.
-/
namespace Go.Proofs.YtcjcdpfjnomehaaGreat.It
open Go.RowKit
set_option linter.unusedSimpArgs false
set_option linter.unusedVariables false
def isR (r : Int) : Bool := decide (0 ≤ r) && decide (r ≤ 1114111) && (decide (r < 55296) || decide (57343 < r))
theorem isR_t (r : Int) (h : isR r = true) : 0 ≤ r ∧ r ≤ 1114111 ∧ (r < 55296 ∨ 57343 < r) := by simp [isR] at h; omega
theorem isR_f (r : Int) (h : isR r = false) : ¬ (0 ≤ r ∧ r ≤ 1114111 ∧ (r < 55296 ∨ 57343 < r)) := by
  intro c
  have : isR r = true := by simp [isR]; omega
  rw [this] at h; exact absurd h (by simp)
theorem isR_mk (r : Int) (h : 0 ≤ r ∧ r ≤ 1114111 ∧ (r < 55296 ∨ 57343 < r)) : isR r = true := by simp [isR]; omega
theorem info_int : (Tryz.prog.info? 3).map (fun i => (i.zero, i.size, i.bytes)) = some (some (.int .i64 0), 1, 8) := by kernel_rfl
def vals (l : List Nat) : List Value := l.map fun (d : Nat) => Value.int .i64 (d : Int)
theorem vals_len (l : List Nat) : (vals l).length = l.length := by simp [vals]
theorem vals_get (l : List Nat) (j : Nat) (h : j < l.length) : (vals l)[j]? = some (.int .i64 ((l.getD j 0 : Nat) : Int)) := by
  simp [vals, h]
theorem vals_snoc (l : List Nat) (x : Nat) : vals l ++ [.int .i64 (x : Int)] = vals (l ++ [x]) := by simp [vals]
def Dg (w : World) (ao : Option Addr) (cap : Nat) (l : List Nat) : Prop :=
  (l.length ≤ cap ∧ cap ≤ maxLen) ∧ (l = [] ∨ ∃ b off, ao = some ⟨b, off, none⟩ ∧ b < w.heap.size ∧ ∀ i, i < l.length → w.cell? ⟨b, off + i, none⟩ = some (.int .i64 ((l.getD i 0 : Nat) : Int)))
theorem Dg.below {w w' : World} {ao : Option Addr} {cap : Nat} {l : List Nat} (h : Dg w ao cap l) (hb : Below w.heap.size w w') : Dg w' ao cap l := by
  obtain ⟨hc, h⟩ := h
  refine ⟨hc, ?_⟩
  rcases h with h | ⟨b, off, h1, h2, h3⟩
  · exact Or.inl h
  · refine Or.inr ⟨b, off, h1, Nat.lt_of_lt_of_le h2 hb.size, fun i hi => ?_⟩
    rw [hb.cell (p := ⟨b, off + i, none⟩) h2]
    exact h3 i hi
theorem dg_of_owns {w : World} {base n : Nat} {v : Value} {l : List Nat} (h : w.ownsRow base 3 1 v n (vals l)) : n = l.length ∧ ∃ ao cap, v = .slice ao l.length cap ∧ Dg w ao cap l := by
  have hl : l.length = n := by have := h.1; rw [vals_len] at this; omega
  refine ⟨hl.symm, ?_⟩
  subst hl
  rcases h.2 with ⟨rfl, h0⟩ | ⟨g, cap, cur, rfl, hg, hh, hle, hm, hc, ht⟩
  · have : l = [] := List.eq_nil_of_length_eq_zero h0
    subst this
    exact ⟨none, 0, rfl, ⟨by simp, by unfold maxLen; omega⟩, Or.inl rfl⟩
  · refine ⟨some ⟨g, 0, none⟩, cap, rfl, ⟨hle, hm⟩, Or.inr ⟨g, 0, rfl, ?_, fun i hi => ?_⟩⟩
    · exact (h.lt g rfl).2
    · have := h.cellAt i (by omega)
      rw [Nat.zero_add, this, vals_get l i hi]
theorem isrune_any (r : Int) (w : World) :
    Calls Tryz.prog 123 #[.int .i64 r] w fun e w' => e = .returned (.bool (isR r)) ∧ w' = w := by
  unfold isR
  by_cases h1 : 0 ≤ r
  all_goals
    by_cases h2 : r ≤ 1114111
    all_goals
      by_cases h3 : r < 55296
      all_goals
        go_enter Tryz.func123, Tryz.ntmps123
        go_wp2
        go_ret
        exact ⟨ret_bool (by simp [h1, h2, h3] <;> omega), rfl⟩
def byts (r : Nat) : List Nat :=
  if isR (r : Int) = false then [] else if r < 128 then [r] else if r < 2048 then [192 + r / 64, 128 + r % 64]
  else if r < 65536 then [224 + r / 4096, 128 + r / 64 % 64, 128 + r % 64] else [240 + r / 262144, 128 + r / 4096 % 64, 128 + r / 64 % 64, 128 + r % 64]
theorem dg_lit (w : World) (cs : Array Value) (l : List Nat) (h : cs.toList = vals l) (hl : l.length ≤ 4) : Dg (w.alloc (.cells cs 3)) (some ⟨w.heap.size, 0, none⟩) l.length l := by
  have hz : cs.size = l.length := by rw [← Array.length_toList, h, vals_len]
  have ho := World.ownsRow_lit (base := w.heap.size) (e := 3) (size := 1) w cs l.length (Nat.le_refl _) (by unfold maxLen; omega) (by omega)
  refine ⟨⟨Nat.le_refl _, by unfold maxLen; omega⟩, Or.inr ⟨w.heap.size, 0, rfl, by simp, fun i hi => ?_⟩⟩
  have := ho.cellAt i (by omega)
  rw [Nat.zero_add, this, h, vals_get l i hi]
set_option maxRecDepth 100000 in
set_option maxHeartbeats 1600000 in
theorem bytes_any (r : Nat) (w : World) (hr : r ≤ 4194304) :
    Calls Tryz.prog 81 #[.int .i64 (r : Int)] w fun e w' => ∃ ao cap, e = .returned (.slice ao (byts r).length cap) ∧ Dg w' ao cap (byts r) ∧ Below w.heap.size w w' := by
  have hI := isrune_any (r : Int) w
  cases hx : isR (r : Int) with
  | false =>
    have hv : Box (byts r = []) := boxed (by unfold byts; rw [if_pos hx])
    rw [hx] at hI
    go_enter Tryz.func81, Tryz.ntmps81
    go_wp2_with (go_at_call 123; refine hI.mono ?_; rintro e w' ⟨rfl, hw'⟩; subst w')
    go_ret
    rw [hv.out]
    exact ⟨none, 0, rfl, ⟨⟨by simp, by unfold maxLen; omega⟩, Or.inl rfl⟩, Below.refl _ _⟩
  | true =>
    rw [hx] at hI
    have hnx : ¬ isR (r : Int) = false := by rw [hx]; simp
    by_cases h1 : r < 128
    · have hv : Box (byts r = [r]) := boxed (by unfold byts; rw [if_neg hnx, if_pos h1])
      clear hnx hx
      go_enter Tryz.func81, Tryz.ntmps81
      go_wp2_with (go_at_call 123; refine hI.mono ?_; rintro e w' ⟨rfl, hw'⟩; subst w')
      go_ret
      rw [hv.out]
      exact ⟨_, _, rfl, dg_lit _ _ _ (by simp [vals]) (by simp), (Below.refl _ _).alloc (Nat.le_refl _) _⟩
    by_cases h2 : r < 2048
    · have hv : Box (byts r = [192 + r / 64, 128 + r % 64]) := boxed (by unfold byts; rw [if_neg hnx, if_neg h1, if_pos h2])
      clear hnx hx
      go_enter Tryz.func81, Tryz.ntmps81
      go_wp2_with (go_at_call 123; refine hI.mono ?_; rintro e w' ⟨rfl, hw'⟩; subst w')
      go_ret
      rw [hv.out]
      exact ⟨_, _, rfl, dg_lit _ _ _ (by simp [vals]) (by simp), (Below.refl _ _).alloc (Nat.le_refl _) _⟩
    have d1 : decide ((r : Int) < 128) = false := decide_eq_false (by omega)
    have d2 : decide ((r : Int) < 2048) = false := decide_eq_false (by omega)
    have z0 : (0 : Int) ≤ (r : Int) := by omega
    have z1 : (r : Int) ≤ 4194304 := by omega
    by_cases h3 : r < 65536
    · have d3 : decide ((r : Int) < 65536) = true := decide_eq_true (by omega)
      have hv : Box (byts r = [224 + r / 4096, 128 + r / 64 % 64, 128 + r % 64]) := boxed (by unfold byts; rw [if_neg hnx, if_neg h1, if_neg h2, if_pos h3])
      clear hnx hx h1 h2 h3 hr
      go_enter Tryz.func81, Tryz.ntmps81
      go_wp2_with (go_at_call 123; refine hI.mono ?_; rintro e w' ⟨rfl, hw'⟩; subst w')
      go_ret
      rw [hv.out]
      exact ⟨_, _, rfl, dg_lit _ _ _ (by simp [vals]) (by simp), (Below.refl _ _).alloc (Nat.le_refl _) _⟩
    · have d3 : decide ((r : Int) < 65536) = false := decide_eq_false (by omega)
      have hv : Box (byts r = [240 + r / 262144, 128 + r / 4096 % 64, 128 + r / 64 % 64, 128 + r % 64]) := boxed (by unfold byts; rw [if_neg hnx, if_neg h1, if_neg h2, if_neg h3])
      clear hnx hx h1 h2 h3 hr
      go_enter Tryz.func81, Tryz.ntmps81
      go_wp2_with (go_at_call 123; refine hI.mono ?_; rintro e w' ⟨rfl, hw'⟩; subst w')
      go_ret
      rw [hv.out]
      exact ⟨_, _, rfl, dg_lit _ _ _ (by simp [vals]) (by simp), (Below.refl _ _).alloc (Nat.le_refl _) _⟩
theorem idx (s : ByteArray) (k : Nat) (h : k < s.size) (i : Int) (e : i = (k : Int)) (w : World) : (Instr.index 9 (.string s) (.int .i64 i)).run Tryz.prog w = .ok (.int .u8 (bt s k : Int)) w := by
  subst e
  rw [run_index_string w 9 s .i64 (k : Int) Tryz.underlying9, dif_pos ⟨by omega, by omega⟩, bt_in s k h]
  simp
def vv (s : ByteArray) (a : Nat) : Nat → Nat
  | 1 => bt s a
  | 2 => bt s a % 32 * 64 + bt s (a + 1) % 64
  | 3 => (bt s a % 16 * 64 + bt s (a + 1) % 64) * 64 + bt s (a + 2) % 64
  | 4 => ((bt s a % 8 * 64 + bt s (a + 1) % 64) * 64 + bt s (a + 2) % 64) * 64 + bt s (a + 3) % 64
  | _ => 0
set_option maxRecDepth 100000 in
set_option maxHeartbeats 1600000 in
theorem value_any (s : ByteArray) (a n : Nat) (w : World) (hs : s.size ≤ 1048576) (hn : 1 ≤ n ∧ n ≤ 4) (ha : a + n ≤ s.size) :
    Calls Tryz.prog 144 #[.string s, .int .i64 (a : Int), .int .i64 (n : Int)] w fun e w' => e = .returned (.int .i64 (vv s a n : Int)) ∧ w' = w := by
  have i0 := idx s a (by omega) (a : Int) rfl
  have b0 := bt_lt s a (by omega)
  have hc : n = 1 ∨ n = 2 ∨ n = 3 ∨ n = 4 := by omega
  rcases hc with rfl | rfl | rfl | rfl
  · go_enter Tryz.func144, Tryz.ntmps144
    go_wp2
    go_ret
    exact ⟨rfl, rfl⟩
  · have i1 := idx s (a + 1) (by omega) ((a : Int) + 1) (by omega)
    have b1 := bt_lt s (a + 1) (by omega)
    have HV : Box (vv s a 2 = bt s a % 32 * 64 + bt s (a + 1) % 64) := boxed rfl
    generalize bt s a = x0 at *
    generalize bt s (a + 1) = x1 at *
    go_enter Tryz.func144, Tryz.ntmps144
    go_wp2
    refine wp_loop_rounds 2 ?_
    rw [rounds_succ]
    go_wp2
    rw [rounds_succ]
    go_wp2
    go_ret
    exact ⟨ret_int (by rw [HV.out]; omega), rfl⟩
  · have i1 := idx s (a + 1) (by omega) ((a : Int) + 1) (by omega)
    have i2 := idx s (a + 2) (by omega) ((a : Int) + 2) (by omega)
    have b1 := bt_lt s (a + 1) (by omega)
    have b2 := bt_lt s (a + 2) (by omega)
    have HV : Box (vv s a 3 = (bt s a % 16 * 64 + bt s (a + 1) % 64) * 64 + bt s (a + 2) % 64) := boxed rfl
    generalize bt s a = x0 at *
    generalize bt s (a + 1) = x1 at *
    generalize bt s (a + 2) = x2 at *
    go_enter Tryz.func144, Tryz.ntmps144
    go_wp2
    refine wp_loop_rounds 3 ?_
    rw [rounds_succ]
    go_wp2
    rw [rounds_succ]
    go_wp2
    rw [rounds_succ]
    go_wp2
    go_ret
    exact ⟨ret_int (by rw [HV.out]; omega), rfl⟩
  · have i1 := idx s (a + 1) (by omega) ((a : Int) + 1) (by omega)
    have i2 := idx s (a + 2) (by omega) ((a : Int) + 2) (by omega)
    have i3 := idx s (a + 3) (by omega) ((a : Int) + 3) (by omega)
    have b1 := bt_lt s (a + 1) (by omega)
    have b2 := bt_lt s (a + 2) (by omega)
    have b3 := bt_lt s (a + 3) (by omega)
    have HV : Box (vv s a 4 = ((bt s a % 8 * 64 + bt s (a + 1) % 64) * 64 + bt s (a + 2) % 64) * 64 + bt s (a + 3) % 64) := boxed rfl
    generalize bt s a = x0 at *
    generalize bt s (a + 1) = x1 at *
    generalize bt s (a + 2) = x2 at *
    generalize bt s (a + 3) = x3 at *
    go_enter Tryz.func144, Tryz.ntmps144
    go_wp2
    refine wp_loop_rounds 4 ?_
    rw [rounds_succ]
    go_wp2
    rw [rounds_succ]
    go_wp2
    rw [rounds_succ]
    go_wp2
    rw [rounds_succ]
    go_wp2
    go_ret
    exact ⟨ret_int (by rw [HV.out]; omega), rfl⟩
end Go.Proofs.YtcjcdpfjnomehaaGreat.It

/-
  What the document's begins and Read answer for every text and every place of it: Read tells the rune that begins there and how many bytes it has, -1 and 0, if none does.
-/
namespace Go.Proofs.YtcjcdpfjnomehaaGreat.It
open Go.RowKit
set_option linter.unusedSimpArgs false
set_option linter.unusedVariables false
def beg (s : ByteArray) (a : Nat) (l : List Nat) : Bool := decide (∀ i, i < l.length → bt s (a + i) = l.getD i 0)
set_option maxRecDepth 100000 in
set_option maxHeartbeats 1600000 in
theorem begins_any (s : ByteArray) (a : Nat) (ao : Option Addr) (cap : Nat) (l : List Nat) (w : World) (hs : s.size ≤ 1048576) (hd : Dg w ao cap l) (hl : 0 < l.length) (ha : a + l.length ≤ s.size) :
    Calls Tryz.prog 145 #[.string s, .int .i64 (a : Int), .slice ao l.length cap] w fun e w' => e = .returned (.bool (beg s a l)) ∧ ∃ n, w' = w.drewN n := by
  obtain ⟨⟨c1, c2⟩, h | ⟨b, off, rfl, hb, hc⟩⟩ := hd
  · rw [h] at hl; simp at hl
  have HC := boxed hc
  clear hc
  unfold maxLen at c2
  have z0 : ((l.length : Int) == 0) = false := by rw [beq_eq_false_iff_ne]; omega
  have z1 : decide ((s.size : Int) < (a : Int) + (l.length : Int)) = false := decide_eq_false (by omega)
  have HB : Box (beg s a l = decide (∀ i, i < l.length → bt s (a + i) = l.getD i 0)) := boxed rfl
  have HL : Box (∀ i, i < l.length → l.getD i 0 = l.getD i 0) := boxed (fun _ _ => rfl)
  generalize hn : l.length = n at *
  go_enter Tryz.func145, Tryz.ntmps145
  go_wp2
  go_loopw [7] (fun i wr => ∃ k m : Nat, k ≤ n ∧ i = .int .i64 (k : Int) ∧ wr = w.drewN m ∧ Box (∀ j, j < k → bt s (a + j) = l.getD j 0)) (fun i _ => n - (intOf i).toNat)
  case atStart => exact ⟨0, 0, Nat.zero_le _, rfl, rfl, boxed (by intro j hj; omega)⟩
  case round =>
    obtain ⟨k, m, hk, rfl, rfl, HK⟩ := hrel
    by_cases hlt : k < n
    · have hcell := HC.out k hlt
      have hix := idx s (a + k) (by omega) ((a : Int) + (k : Int)) (by omega)
      have HY : Box (bt s (a + k) = l.getD k 0 ↔ bt s (a + k) = l.getD k 0) := boxed Iff.rfl
      have hx := bt_lt s (a + k) (by omega)
      generalize hX : bt s (a + k) = x at *
      generalize hYY : l.getD k 0 = y at *
      replace hX := boxed hX
      replace hYY := boxed hYY
      by_cases hxy : x = y
      · subst hxy
        go_wp2
        go_quiet (fail)
        go_wp2
        go_roundw
        case rel =>
          refine ⟨k + 1, _, by omega, by go_num, rfl, boxed ?_⟩
          intro j hj
          by_cases c : j = k
          · subst c; rw [hX.out, hYY.out]
          · exact HK.out j (by omega)
        case measure => simp [intOf]; omega
      · have hne : ((x : Int) != (y : Int)) = true := by simp; omega
        go_wp2
        go_quiet (fail)
        go_wp2
        go_ret
        refine ⟨ret_bool ?_, _, World.drewN_drewN _ _ _⟩
        rw [HB.out]
        symm
        apply decide_eq_false
        intro c
        have := c k hlt
        rw [hX.out, hYY.out] at this
        exact hxy this
    · go_wp2
      go_ret
      refine ⟨ret_bool ?_, _, rfl⟩
      rw [HB.out]
      symm
      apply decide_eq_true
      intro j hj
      exact HK.out j (by omega)
def hit (s : ByteArray) (a n : Nat) : Prop := (byts (vv s a n)).length = n ∧ beg s a (byts (vv s a n)) = true
theorem byts_1 (r : Nat) (h : r < 128) : byts r = [r] := by
  unfold byts; rw [if_neg (by rw [isR_mk _ (by omega)]; simp), if_pos h]
theorem byts_2 (r : Nat) (h : 128 ≤ r) (h2 : r < 2048) : byts r = [192 + r / 64, 128 + r % 64] := by
  unfold byts; rw [if_neg (by rw [isR_mk _ (by omega)]; simp), if_neg (by omega), if_pos h2]
theorem byts_3 (r : Nat) (h : 2048 ≤ r) (h2 : r < 65536) (hx : isR (r : Int) = true) : byts r = [224 + r / 4096, 128 + r / 64 % 64, 128 + r % 64] := by
  unfold byts; rw [if_neg (by rw [hx]; simp), if_neg (by omega), if_neg (by omega), if_pos h2]
theorem byts_4 (r : Nat) (h : 65536 ≤ r) (hx : isR (r : Int) = true) : byts r = [240 + r / 262144, 128 + r / 4096 % 64, 128 + r / 64 % 64, 128 + r % 64] := by
  unfold byts; rw [if_neg (by rw [hx]; simp), if_neg (by omega), if_neg (by omega), if_neg (by omega)]
theorem byts_0 (r : Nat) (hx : isR (r : Int) = false) : byts r = [] := by unfold byts; rw [if_pos hx]
theorem byts_len (r : Nat) : (isR (r : Int) = false ∧ (byts r).length = 0) ∨ (r < 128 ∧ (byts r).length = 1) ∨ (128 ≤ r ∧ r < 2048 ∧ (byts r).length = 2) ∨ (2048 ≤ r ∧ r < 65536 ∧ isR (r : Int) = true ∧ (byts r).length = 3) ∨
    (65536 ≤ r ∧ isR (r : Int) = true ∧ (byts r).length = 4) := by
  by_cases h1 : r < 128
  · exact Or.inr (Or.inl ⟨h1, by rw [byts_1 r h1]; rfl⟩)
  by_cases h2 : r < 2048
  · exact Or.inr (Or.inr (Or.inl ⟨by omega, h2, by rw [byts_2 r (by omega) h2]; rfl⟩))
  cases hx : isR (r : Int) with
  | false => exact Or.inl ⟨rfl, by rw [byts_0 r hx]; rfl⟩
  | true =>
    by_cases h3 : r < 65536
    · exact Or.inr (Or.inr (Or.inr (Or.inl ⟨by omega, h3, rfl, by rw [byts_3 r (by omega) h3 hx]; rfl⟩)))
    · exact Or.inr (Or.inr (Or.inr (Or.inr ⟨by omega, rfl, by rw [byts_4 r (by omega) hx]; rfl⟩)))
theorem beg_1 (s : ByteArray) (a x : Nat) : beg s a [x] = true ↔ bt s a = x := by
  unfold beg; rw [decide_eq_true_iff]
  constructor
  · intro h; exact h 0 (by simp)
  · intro h i hi; match i, hi with | 0, _ => exact h
theorem beg_2 (s : ByteArray) (a x y : Nat) : beg s a [x, y] = true ↔ bt s a = x ∧ bt s (a + 1) = y := by
  unfold beg; rw [decide_eq_true_iff]
  constructor
  · intro h; exact ⟨h 0 (by simp), h 1 (by simp)⟩
  · intro h i hi; match i, hi with | 0, _ => exact h.1 | 1, _ => exact h.2
theorem beg_3 (s : ByteArray) (a x y z : Nat) : beg s a [x, y, z] = true ↔ bt s a = x ∧ bt s (a + 1) = y ∧ bt s (a + 2) = z := by
  unfold beg; rw [decide_eq_true_iff]
  constructor
  · intro h; exact ⟨h 0 (by simp), h 1 (by simp), h 2 (by simp)⟩
  · intro h i hi; match i, hi with | 0, _ => exact h.1 | 1, _ => exact h.2.1 | 2, _ => exact h.2.2
theorem beg_4 (s : ByteArray) (a x y z t : Nat) : beg s a [x, y, z, t] = true ↔ bt s a = x ∧ bt s (a + 1) = y ∧ bt s (a + 2) = z ∧ bt s (a + 3) = t := by
  unfold beg; rw [decide_eq_true_iff]
  constructor
  · intro h; exact ⟨h 0 (by simp), h 1 (by simp), h 2 (by simp), h 3 (by simp)⟩
  · intro h i hi; match i, hi with | 0, _ => exact h.1 | 1, _ => exact h.2.1 | 2, _ => exact h.2.2.1 | 3, _ => exact h.2.2.2
theorem hit_dc (s : ByteArray) (a n : Nat) (hn : 1 ≤ n ∧ n ≤ 4) (ha : a + n ≤ s.size) (h : hit s a n) : dc s a = (vv s a n, n) := by
  obtain ⟨h1, h2⟩ := h
  have hL := byts_len (vv s a n)
  have b0 := bt_lt s a (by omega)
  have hc : n = 1 ∨ n = 2 ∨ n = 3 ∨ n = 4 := by omega
  rcases hc with rfl | rfl | rfl | rfl
  · have hr : vv s a 1 < 128 := by omega
    exact dec1 hr
  · have hr : 128 ≤ vv s a 2 ∧ vv s a 2 < 2048 := by omega
    rw [byts_2 _ hr.1 hr.2, beg_2] at h2
    have b1 := bt_lt s (a + 1) (by omega)
    simp only [vv] at *
    unfold dc
    rw [dec2 (by omega) (by omega) (by omega), Prod.mk.injEq]
    exact ⟨by omega, rfl⟩
  · have hr : 2048 ≤ vv s a 3 ∧ vv s a 3 < 65536 ∧ isR (vv s a 3 : Int) = true := by
      rcases hL with h | h | h | h | h <;> first | omega | exact ⟨h.1, h.2.1, h.2.2.1⟩
    rw [byts_3 _ hr.1 hr.2.1 hr.2.2, beg_3] at h2
    have b1 := bt_lt s (a + 1) (by omega)
    have b2 := bt_lt s (a + 2) (by omega)
    have hx := isR_t _ hr.2.2
    simp only [vv] at *
    unfold dc
    rw [dec3 (by omega) (by omega) (by omega) (by omega) (by omega), Prod.mk.injEq]
    exact ⟨by omega, rfl⟩
  · have hr : 65536 ≤ vv s a 4 ∧ isR (vv s a 4 : Int) = true := by
      rcases hL with h | h | h | h | h <;> first | omega | exact ⟨h.1, h.2.1⟩
    rw [byts_4 _ hr.1 hr.2, beg_4] at h2
    have b1 := bt_lt s (a + 1) (by omega)
    have b2 := bt_lt s (a + 2) (by omega)
    have b3 := bt_lt s (a + 3) (by omega)
    have hx := isR_t _ hr.2
    simp only [vv] at *
    unfold dc
    rw [dec4 (by omega) (by omega) (by omega) (by omega) (by omega) (by omega), Prod.mk.injEq]
    exact ⟨by omega, rfl⟩
theorem dc_hit (s : ByteArray) (a : Nat) (h : 0 < (dc s a).2) : hit s a (dc s a).2 := by
  have D : dc s a = dec (bt s a) (bt s (a + 1)) (bt s (a + 2)) (bt s (a + 3)) := rfl
  rcases dec_cases (bt s a) (bt s (a + 1)) (bt s (a + 2)) (bt s (a + 3)) with ⟨q, e⟩ | ⟨q, e⟩ | ⟨q, e⟩ | ⟨q, e⟩ | e
  · rw [D, e]
    have hb : byts (vv s a 1) = [bt s a] := byts_1 _ q
    exact ⟨by rw [hb]; rfl, by rw [hb, beg_1]⟩
  · rw [D, e]
    have hv : vv s a 2 = (bt s a - 192) * 64 + (bt s (a + 1) - 128) := by simp only [vv]; omega
    have hb := byts_2 (vv s a 2) (by omega) (by omega)
    exact ⟨by rw [hb]; rfl, by rw [hb, beg_2, hv]; omega⟩
  · rw [D, e]
    have hv : vv s a 3 = (bt s a - 224) * 4096 + (bt s (a + 1) - 128) * 64 + (bt s (a + 2) - 128) := by simp only [vv]; omega
    have hb := byts_3 (vv s a 3) (by omega) (by omega) (isR_mk _ (by omega))
    exact ⟨by rw [hb]; rfl, by rw [hb, beg_3, hv]; omega⟩
  · rw [D, e]
    have hv : vv s a 4 = (bt s a - 240) * 262144 + (bt s (a + 1) - 128) * 4096 + (bt s (a + 2) - 128) * 64 + (bt s (a + 3) - 128) := by simp only [vv]; omega
    have hb := byts_4 (vv s a 4) (by omega) (isR_mk _ (by omega))
    exact ⟨by rw [hb]; rfl, by rw [hb, beg_4, hv]; omega⟩
  · rw [D, e] at h; exact absurd h (by simp)
def rf (s : ByteArray) (a : Nat) : Int × Int := if (dc s a).2 = 0 then (-1, 0) else (((dc s a).1 : Int), ((dc s a).2 : Int))
theorem vv_le (s : ByteArray) (a n : Nat) (hn : 1 ≤ n ∧ n ≤ 4) (ha : a + n ≤ s.size) : vv s a n ≤ 4194304 := by
  have b0 := bt_lt s a (by omega)
  have hc : n = 1 ∨ n = 2 ∨ n = 3 ∨ n = 4 := by omega
  rcases hc with rfl | rfl | rfl | rfl <;> simp only [vv] <;> omega
end Go.Proofs.YtcjcdpfjnomehaaGreat.It

/-
  What the document's Read answers at every place of a text of at most 1048576 bytes.
-/
namespace Go.Proofs.YtcjcdpfjnomehaaGreat.It
open Go.RowKit
set_option linter.unusedSimpArgs false
set_option linter.unusedVariables false
set_option maxRecDepth 100000 in
set_option maxHeartbeats 1600000 in
theorem refread_any (s : ByteArray) (a : Nat) (w : World) (hs : s.size ≤ 1048576) (ha : a ≤ s.size) :
    Calls Tryz.prog 97 #[.string s, .int .i64 (a : Int)] w fun e w' => e = .returned (.tuple #[.int .i64 (rf s a).1, .int .i64 (rf s a).2]) ∧ Below w.heap.size w w' := by
  have H1 : Box (∀ n, 1 ≤ n ∧ n ≤ 4 → a + n ≤ s.size → hit s a n → rf s a = ((vv s a n : Int), (n : Int))) := boxed (by
    intro n hn hl h
    have e := hit_dc s a n hn hl h
    unfold rf
    rw [e, if_neg (by simp; omega)])
  have H2 : Box (∀ m, 1 ≤ m → (∀ j, 1 ≤ j ∧ j < m → ¬ hit s a j) → (4 < m ∨ s.size < a + m) → rf s a = (-1, 0)) := boxed (by
    intro m hm hj hx
    unfold rf
    by_cases c : (dc s a).2 = 0
    · rw [if_pos c]
    · exfalso
      have hl := dc_le s a ha
      exact hj (dc s a).2 ⟨by omega, by omega⟩ (dc_hit s a (by omega)))
  go_enter Tryz.func97, Tryz.ntmps97
  go_wp2
  go_loopw [6] (fun i wr => ∃ m : Nat, (1 ≤ m ∧ m ≤ 5) ∧ i = .int .i64 (m : Int) ∧ Below w.heap.size w wr ∧ Box (∀ j, 1 ≤ j ∧ j < m → ¬ hit s a j)) (fun i _ => 5 - (intOf i).toNat)
  case atStart => exact ⟨1, by omega, rfl, Below.refl _ _, boxed (by intro j hj; omega)⟩
  case round =>
    obtain ⟨m, hm, rfl, hbel, HJ⟩ := hrel
    have HB := boxed hbel
    clear hbel
    by_cases h4 : m ≤ 4
    · have d4 : decide ((m : Int) ≤ 4) = true := decide_eq_true (by omega)
      by_cases hl : a + m ≤ s.size
      · have d5 : decide ((a : Int) + (m : Int) ≤ (s.size : Int)) = true := decide_eq_true (by omega)
        have hval := value_any s a m wr hs ⟨hm.1, h4⟩ hl
        have hvl := vv_le s a m ⟨hm.1, h4⟩ hl
        have HH : Box (hit s a m ↔ ((byts (vv s a m)).length = m ∧ beg s a (byts (vv s a m)) = true)) := boxed Iff.rfl
        have HR := boxed (H1.out m ⟨hm.1, h4⟩ hl)
        generalize vv s a m = V at *
        have hby := bytes_any V wr hvl
        go_wp2_with fail
        refine hval.mono ?_
        rintro e w' ⟨rfl, hw'⟩
        subst w'
        go_wp2_with fail
        refine hby.mono ?_
        rintro e w1 ⟨ao, cap, rfl, hdg, hb1⟩
        have HD := boxed hdg
        have HB1 : Box (Below w.heap.size w w1) := boxed (HB.out.trans (hb1.mono HB.out.size))
        clear hdg hb1 hby hval
        by_cases hlen : (byts V).length = m
        · have hbe := begins_any s a ao cap (byts V) w1 hs HD.out (by omega) (by omega)
          have d6 : (((byts V).length : Int) == (m : Int)) = true := by rw [beq_iff_eq]; omega
          cases hbg : beg s a (byts V) with
          | true =>
            rw [hbg] at hbe
            replace HR := boxed (HR.out (HH.out.2 ⟨hlen, hbg⟩))
            clear hbg hlen
            generalize (byts V).length = L at *
            go_wp2_with (go_at_call 145; refine hbe.mono ?_; rintro e w' ⟨rfl, n, hw'⟩; subst w')
            go_ret2
            exact ⟨by rw [HR.out]; rfl, HB1.out.trans (bel_drewN _ _ _)⟩
          | false =>
            rw [hbg] at hbe
            have HN : Box (¬ hit s a m) := boxed (by rw [HH.out, hbg]; rintro ⟨_, c⟩; cases c)
            clear hbg hlen
            generalize (byts V).length = L at *
            go_wp2_with (go_at_call 145; refine hbe.mono ?_; rintro e w' ⟨rfl, n, hw'⟩; subst w')
            go_roundw
            case rel =>
              refine ⟨m + 1, by omega, by go_num, HB1.out.trans (bel_drewN _ _ _), boxed ?_⟩
              intro j hj
              by_cases c : j = m
              · subst c; exact HN.out
              · exact HJ.out j (by omega)
            case measure => simp [intOf]; omega
        · have d6 : (((byts V).length : Int) == (m : Int)) = false := by rw [beq_eq_false_iff_ne]; omega
          have HN : Box (¬ hit s a m) := boxed (by rw [HH.out]; rintro ⟨c, _⟩; exact hlen c)
          clear hlen
          generalize (byts V).length = L at *
          go_wp2
          go_roundw
          case rel =>
            refine ⟨m + 1, by omega, by go_num, HB1.out, boxed ?_⟩
            intro j hj
            by_cases c : j = m
            · subst c; exact HN.out
            · exact HJ.out j (by omega)
          case measure => simp [intOf]; omega
      · have d5 : decide ((a : Int) + (m : Int) ≤ (s.size : Int)) = false := decide_eq_false (by omega)
        have HR := boxed (H2.out m hm.1 HJ.out (Or.inr (by omega)))
        go_wp2
        go_ret2
        exact ⟨by rw [HR.out]; rfl, HB.out⟩
    · have d4 : decide ((m : Int) ≤ 4) = false := decide_eq_false (by omega)
      have HR := boxed (H2.out m hm.1 HJ.out (Or.inl (by omega)))
      go_wp2
      go_ret2
      exact ⟨by rw [HR.out]; rfl, HB.out⟩
end Go.Proofs.YtcjcdpfjnomehaaGreat.It

/-
  A law of the walk: what is appended to a list of the call's own lies in the list's block or in a new one. And what the document's Runes answers for every text of at most 1048576 bytes: its runes, where each begins, and the place of the first wrong byte, or -1.
-/
namespace Go.Proofs.YtcjcdpfjnomehaaGreat.It
open Go.RowKit
set_option linter.unusedSimpArgs false
set_option linter.unusedVariables false
theorem append_where {P : Program} (w : World) (base : Nat) (t ty e : TypeId) (i : TypeInfo) (z : Value) (size bytes : Nat) (ht : P.underlying t = some (.slice e)) (hi : P.info? e = some i) (hz : i.zero = some z)
    (hsize : i.size = size) (hby : i.bytes = bytes) (v : Value) (n : Nat) (xs : List Value) (hown : w.ownsRow base e size v n xs)
    (a : Addr) (m c : Nat) (news : List Value) (hm : 0 < m) (hl : news.length = m * size) (hnews : ∀ j u, news[j]? = some u → w.cell? (a.add j) = some u) (h1 : ∀ u ∈ news, u.oneCell' = true)
    (h63 : n + m ≤ maxLen) (hbytes : (n + m) * bytes ≤ 140737488355328) (v' : Value) (w' : World)
    (hr : (Builtin.append_ #[t, t] ty #[v, .slice (some a) m c]).run P w = .ok v' w') : v'.ownBlock = v.ownBlock ∨ v'.ownBlock = some w.heap.size := by
  subst hsize
  subst hby
  have hs : n + m ≤ 9223372036854775807 := by simp only [maxLen] at h63; omega
  rcases hown.2 with ⟨rfl, rfl⟩ | ⟨g, cap, cur, rfl, hbg, hg, hnc, hcm, hcs, htake⟩
  · have := run_append_nil (P := P) w t ty e i z ht hi hz a m c news hl hnews hm (by omega) (by have hb := hbytes; simp only [Nat.zero_add] at hb; omega)
    rw [this] at hr
    injection hr with e1 e2
    subst e1
    exact Or.inr rfl
  · by_cases hroom : n + m ≤ cap
    · have hfit : n * i.size + news.length ≤ cur.size := by rw [hl, hcs, ← Nat.add_mul]; exact Nat.mul_le_mul_right _ hroom
      have := run_append_room (P := P) w t ty e i ht hi g n cap cur hg a m c news hl hnews h1 hroom hfit
      rw [this] at hr
      injection hr with e1 e2
      subst e1
      exact Or.inl rfl
    · have := run_append_grow (P := P) w t ty e i z ht hi hz ⟨g, 0, none⟩ n cap xs hown.1 (hown.cells (g := g) rfl) a m c news hl hnews (by omega) (by omega) (growslice_fits (by omega) hbytes)
      rw [this] at hr
      injection hr with e1 e2
      subst e1
      exact Or.inr rfl
theorem wpList_append_apart {P : Program} {w : World} {ops : Array Oper} {rest : List Oper} {o : Oper} {a : Act} {Q : Exit → Act → World → Prop} (hgd : o.guard = none) (s x : Operand) (t : TypeId)
    (ho : o.op = .call { callee := .builtin .append, args := #[s, x], argTypes := #[t, t] })
    (base : Nat) (e : TypeId) (i : TypeInfo) (z : Value) (size bytes : Nat) (ht : P.underlying t = some (.slice e)) (hi : P.info? e = some i) (hz : i.zero = some z)
    (hsize : i.size = size) (hby : i.bytes = bytes) (hzs : z.cells.size = size) (hsz : 0 < size)
    (v : Value) (n : Nat) (xs : List Value) (hs : a.eval s = v) (hown : w.ownsRow base e size v n xs)
    (ad : Addr) (m c : Nat) (news : List Value) (hx : a.eval x = .slice (some ad) m c) (hl : news.length = m * size) (hnews : ∀ j u, news[j]? = some u → w.cell? (ad.add j) = some u) (h1 : ∀ u ∈ news, u.oneCell' = true)
    (h63 : n + m ≤ maxLen) (hbytes : (n + m) * bytes ≤ 140737488355328) (hbase : base ≤ w.heap.size) (hm : 0 < m)
    (h : ∀ v' w', w'.ownsRow base e size v' (n + m) (xs ++ news) → w.grownBy w' v.ownBlock → (v'.ownBlock = v.ownBlock ∨ v'.ownBlock = some w.heap.size) → wpList P ops Q rest (a.put o.dst v') w') : wpList P ops Q (o :: rest) a w := by
  refine wpList_plain hgd fun K hK => ?_
  obtain ⟨v', w', hr, h2, h3, h4⟩ := run_append_own (P := P) w base t o.type e i z size bytes ht hi hz hsize hby hzs hsz v n xs hown ad m c news hl hnews h1 h63 hbytes hbase
  have h5 := append_where w base t o.type e i z size bytes ht hi hz hsize hby v n xs hown ad m c news hm hl hnews h1 h63 hbytes v' w' hr
  unfold Oper.wp execOp
  simp only [ho, resolve, invoke, builtin, Sem.run_bind, Sem.run_pure, Result.andThen_ok, List.map_toArray, List.map_cons, List.map_nil, hs, hx, hr]
  exact hK _ _ (h v' w' h2 h3 h5)
theorem owns_below {w w' : World} {B e size n : Nat} {v : Value} {xs : List Value} (h : w.ownsRow B e size v n xs) (hb : Below w.heap.size w w') : w'.ownsRow B e size v n xs :=
  h.kept (row := none) ⟨hb.os, hb.tape, hb.output, hb.size, fun k hk _ => hb.block k hk⟩ (by cases hv : v.ownBlock <;> simp)
theorem apart1 {vl va v' : Option Nat} {H : Nat} (hne : vl = none ∨ vl ≠ va) (hva : ∀ k, va = some k → k < H) (hw : v' = vl ∨ v' = some H) : v' = none ∨ v' ≠ va := by
  rcases hw with rfl | rfl
  · exact hne
  · right
    intro c
    have := hva H c.symm
    omega
theorem apart2 {vl va : Option Nat} (hne : vl = none ∨ vl ≠ va) : va = none ∨ va ≠ vl := by
  rcases hne with rfl | h
  · cases va <;> simp
  · exact Or.inr (Ne.symm h)
theorem apart3 {v' va v'' : Option Nat} {H : Nat} (hne : v' = none ∨ v' ≠ va) (hv : ∀ k, v' = some k → k < H) (hw : v'' = va ∨ v'' = some H) : v' = none ∨ v' ≠ v'' := by
  rcases hw with rfl | rfl
  · exact hne
  · right
    intro c
    have := hv H c
    omega
def rns (s : ByteArray) (k : Nat) : List Nat := (List.range k).map (rn s)
def its (s : ByteArray) (k : Nat) : List Nat := (List.range k).map (it s)
theorem rns_len (s : ByteArray) (k : Nat) : (rns s k).length = k := by simp [rns]
theorem its_len (s : ByteArray) (k : Nat) : (its s k).length = k := by simp [its]
theorem rns_succ (s : ByteArray) (k : Nat) : rns s (k + 1) = rns s k ++ [rn s k] := by simp [rns, List.range_succ]
theorem its_succ (s : ByteArray) (k : Nat) : its s (k + 1) = its s k ++ [it s k] := by simp [its, List.range_succ]
theorem rns_get (s : ByteArray) (k j : Nat) (h : j < k) : (rns s k).getD j 0 = rn s j := by simp [rns, h]
theorem rf_pos (s : ByteArray) (a : Nat) (h : 0 < (dc s a).2) : rf s a = (((dc s a).1 : Int), ((dc s a).2 : Int)) := by unfold rf; rw [if_neg (by omega)]
theorem rf_zero (s : ByteArray) (a : Nat) (h : (dc s a).2 = 0) : rf s a = (-1, 0) := by unfold rf; rw [if_pos h]
set_option maxRecDepth 100000 in
set_option maxHeartbeats 3200000 in
theorem runes_any (s : ByteArray) (w : World) (hs : s.size ≤ 1048576) (N : Nat) (hN : Cnt s N) :
    Calls Tryz.prog 44 #[.string s] w fun e w' => ∃ ao1 c1 ao2 c2, e = .returned (.tuple #[.slice ao1 N c1, .slice ao2 N c2, .int .i64 (badAt s N)]) ∧
      Dg w' ao1 c1 (rns s N) ∧ Dg w' ao2 c2 (its s N) ∧ Below w.heap.size w w' := by
  obtain ⟨i0, hi, hz0, hz1, hz2⟩ := info_parts info_int
  have HN := boxed hN
  have hNl : N ≤ s.size := by have := cnt_le s N hN; have := it_le s N; omega
  clear hN
  go_enter Tryz.func44, Tryz.ntmps44
  go_wp2
  go_loopw [5, 6, 7] (fun vl va i wr => ∃ k : Nat, k ≤ N ∧ i = .int .i64 (it s k) ∧ wr.ownsRow w.heap.size 3 1 vl k (vals (rns s k)) ∧ wr.ownsRow w.heap.size 3 1 va k (vals (its s k)) ∧
      (vl.ownBlock = none ∨ vl.ownBlock ≠ va.ownBlock) ∧ Below w.heap.size w wr) (fun _ _ i _ => s.size - (intOf i).toNat)
  case atStart => exact ⟨0, Nat.zero_le _, rfl, World.ownsRow_nil _ _ _ _, World.ownsRow_nil _ _ _ _, Or.inl rfl, Below.refl _ _⟩
  case round =>
    obtain ⟨k, hk, rfl, hownl, howna, hne, hbel⟩ := hrel
    have hle := it_le s k
    have hrd := refread_any s (it s k) wr hs hle
    have hnx : Box (it s (k + 1) = it s k + (dc s (it s k)).2) := boxed rfl
    have hrl := rn_le s k
    by_cases hlt : k < N
    · have hp := HN.out.1 k hlt
      have hin := dc_pos s _ hp
      have hd := dc_le s (it s k) hle
      rw [rf_pos s _ hp] at hrd
      have HRS := boxed (rns_succ s k)
      have HIS := boxed (its_succ s k)
      have HRN : Box (rn s k = (dc s (it s k)).1) := boxed rfl
      have hz : ((((dc s (it s k)).2 : Nat) : Int) == 0) = false := by rw [beq_eq_false_iff_ne]; omega
      generalize hA : it s k = A at *
      generalize dc s A = D at *
      obtain ⟨r, n⟩ := D
      simp only at *
      go_wp2_with fail
      refine hrd.mono ?_
      rintro e w1 ⟨rfl, hb1⟩
      have hownl1 := owns_below hownl hb1
      have howna1 := owns_below howna hb1
      have hbel1 : Below w.heap.size w w1 := hbel.trans (hb1.mono hbel.size)
      clear hownl howna hbel hb1 hrd
      have hsz1 := hbel1.size
      go_wp2_with (at_builtin; refine wpList_append_apart rfl _ _ 33 rfl w.heap.size 3 i0 (.int .i64 0) 1 8 Tryz.underlying33 hi hz0 hz1 hz2 rfl (by decide) _ _ _ rfl (hownl1.alloc _) ⟨w1.heap.size, 0, none⟩ 1 1 [.int .i64 (r : Int)] rfl rfl ?c1 ?c2 ?c3 ?c4 ?c5 ?c6 ?_)
      case c1 =>
        intro j u hj
        match j, hj with
        | 0, hj => simp at hj; subst hj; simp [Addr.add]
      case c2 => intro u hu; simp at hu; subst hu; rfl
      case c3 => unfold maxLen; omega
      case c4 => omega
      case c5 => simp; omega
      case c6 => omega
      intro v' w2 hown2 hgrow2 hwh2
      have hsz2 : w1.heap.size < w2.heap.size := by have := hgrow2.size; simp at this; omega
      have howna2 := (howna1.alloc _).kept hgrow2 (apart2 hne)
      have hne2 := apart1 hne (fun k hk => by have := (howna1.lt k hk).2; omega) hwh2
      have hbel2 : Below w.heap.size w w2 := (hbel1.alloc (by omega) _).grown hgrow2 (by simp; omega) (fun k hk => (hownl1.lt k hk).1)
      clear hownl1 howna1 hgrow2 hwh2 hne hbel1
      go_wp2_with (at_builtin; refine wpList_append_apart rfl _ _ 33 rfl w.heap.size 3 i0 (.int .i64 0) 1 8 Tryz.underlying33 hi hz0 hz1 hz2 rfl (by decide) _ _ _ rfl (howna2.alloc _) ⟨w2.heap.size, 0, none⟩ 1 1 [.int .i64 (A : Int)] rfl rfl ?e1 ?e2 ?e3 ?e4 ?e5 ?e6 ?_)
      case e1 =>
        intro j u hj
        match j, hj with
        | 0, hj => simp at hj; subst hj; simp [Addr.add]
      case e2 => intro u hu; simp at hu; subst hu; rfl
      case e3 => unfold maxLen; omega
      case e4 => omega
      case e5 => simp; omega
      case e6 => omega
      intro v'' w3 hown3 hgrow3 hwh3
      have hownl3 := (hown2.alloc _).kept hgrow3 hne2
      have hne3 := apart3 hne2 (fun k hk => by have := (hown2.lt k hk).2; omega) hwh3
      have hbel3 : Below w.heap.size w w3 := (hbel2.alloc (by omega) _).grown hgrow3 (by simp; omega) (fun k hk => (howna2.lt k hk).1)
      rw [vals_snoc] at hown3 hownl3
      clear hown2 howna2 hgrow3 hwh3 hne2 hbel2
      go_wp2
      go_roundw
      case rel =>
        refine ⟨k + 1, by omega, by rw [hnx.out]; go_num, ?_, ?_, hne3, hbel3⟩
        · rw [HRS.out, HRN.out]; simpa using hownl3
        · rw [HIS.out]; simpa using hown3
      case measure => simp [intOf]; omega
    · have hkN : k = N := by omega
      subst hkN
      have hp := HN.out.2
      rw [rf_zero s _ hp] at hrd
      obtain ⟨-, a1, c1, rfl, hd1⟩ := dg_of_owns hownl
      obtain ⟨-, a2, c2, rfl, hd2⟩ := dg_of_owns howna
      have HD1 := boxed hd1
      have HD2 := boxed hd2
      have HB := boxed hbel
      have hl1 := rns_len s k
      have hl2 := its_len s k
      clear hd1 hd2 hbel hownl howna hne
      by_cases hin : it s k < s.size
      · have hb : Box (badAt s k = (it s k : Int)) := boxed (by unfold badAt; rw [if_pos hin])
        generalize it s k = A at *
        go_wp2_with fail
        refine hrd.mono ?_
        rintro e w1 ⟨rfl, hb1⟩
        have HB1 := boxed hb1
        clear hb1 hrd
        go_wp2
        go_ret3
        refine ⟨a1, c1, a2, c2, ?_, HD1.out.below HB1.out, HD2.out.below HB1.out, HB.out.trans (HB1.out.mono HB.out.size)⟩
        rw [hb.out]
        try simp [hl1, hl2]
      · have hb : Box (badAt s k = -1) := boxed (by unfold badAt; rw [if_neg hin])
        generalize it s k = A at *
        clear hrd
        go_wp2
        go_ret3
        refine ⟨a1, c1, a2, c2, ?_, HD1.out, HD2.out, HB.out⟩
        rw [hb.out]
        try simp [hl1, hl2]
set_option maxRecDepth 100000 in
theorem refright_any (s : ByteArray) (w : World) (hs : s.size ≤ 1048576) (N : Nat) (hN : Cnt s N) :
    Calls Tryz.prog 26 #[.string s] w fun e w' => e = .returned (.bool (decide (badAt s N < 0))) ∧ Below w.heap.size w w' := by
  have hru := runes_any s w hs N hN
  generalize badAt s N = B at *
  go_enter Tryz.func26, Tryz.ntmps26
  go_wp2_with fail
  refine hru.mono ?_
  rintro e w1 ⟨p1, c1, p2, c2, rfl, -, -, hb⟩
  have HB := boxed hb
  clear hb hru
  go_wp2
  go_ret
  exact ⟨rfl, HB.out⟩
end Go.Proofs.YtcjcdpfjnomehaaGreat.It

/-
  Plain: a right text cut between runes gives two right ones with its runes; and of a style that is right the widths of the two together are the text's.
-/
namespace Go.Proofs.YtcjcdpfjnomehaaGreat.It
open Go.RowKit
set_option linter.unusedSimpArgs false
set_option linter.unusedVariables false
theorem ext_size (s : ByteArray) (a b : Nat) (h : b ≤ s.size) : (s.extract a b).size = b - a := by
  rw [ByteArray.size_extract]; omega
theorem bt_ext (s : ByteArray) (a b k : Nat) (h : b ≤ s.size) : bt (s.extract a b) k = if a + k < b then bt s (a + k) else 256 := by
  have hz := ext_size s a b h
  by_cases c : a + k < b
  · rw [if_pos c, bt_in _ _ (by omega), bt_in _ _ (by omega), ByteArray.getElem_extract]
  · rw [if_neg c, bt_out _ _ (by omega)]
theorem bt_tail (s : ByteArray) (a k : Nat) : bt (s.extract a s.size) k = bt s (a + k) := by
  rw [bt_ext s a s.size k (Nat.le_refl _)]
  split
  · rfl
  · rw [bt_out s _ (by assumption)]
theorem dc_tail (s : ByteArray) (a k : Nat) : dc (s.extract a s.size) k = dc s (a + k) := by
  unfold dc; rw [bt_tail, bt_tail, bt_tail, bt_tail]; rfl
theorem right_of (s : ByteArray) (N : Nat) (h : Cnt s N) (hb : badAt s N < 0) : Right s N := by
  refine ⟨h, ?_⟩
  have hl := it_le s N
  by_cases c : it s N < s.size
  · unfold badAt at hb; rw [if_pos c] at hb; omega
  · omega
theorem it_mono (s : ByteArray) (N : Nat) (h : ∀ j, j < N → 0 < (dc s (it s j)).2) (i j : Nat) (hij : i < j) (hj : j ≤ N) : it s i < it s j := by
  have := it_grow s N h j hj i (by omega)
  omega
def Bnd (s : Sty) : Prop := ∀ r, 0 ≤ wdS s r ∧ wdS s r ≤ 1048576
theorem flt_bnd {s : Sty} (h : flt s = 0) : Bnd s := by
  intro r
  unfold flt at h
  split at h
  · rename_i hm
    unfold msr at hm
    simp only [Bool.and_eq_true] at hm
    obtain ⟨⟨⟨⟨⟨⟨⟨-, -⟩, h1⟩, -⟩, -⟩, -⟩, h2⟩, -⟩ := hm
    have b1 := un_t h1
    have b2 := un_t h2
    split at h
    · omega
    · have hz : ∀ k, k < s.rn → rfa s.R k = 0 := by
        generalize s.rn = n at *
        induction n with
        | zero => intro k hk; omega
        | succ n ih =>
          have e : rfs s.R (n + 1) = if rfs s.R n = 0 then rfa s.R n else rfs s.R n := rfl
          rw [e] at h
          by_cases c : rfs s.R n = 0
          · rw [if_pos c] at h
            intro k hk
            by_cases d : k = n
            · subst d; exact h
            · exact ih (by omega) c k (by omega)
          · rw [if_neg c] at h; exact absurd h c
      have hw : ∀ k, k < s.rn → 0 ≤ (s.R k).wd ∧ (s.R k).wd ≤ 1048576 := by
        intro k hk
        have := hz k hk
        unfold rfa at this
        split at this
        · omega
        · split at this
          · rename_i c; exact un_t c
          · omega
      unfold wdS
      split
      · exact b1
      · split
        · omega
        · unfold rgw
          split
          · rename_i c; exact hw _ c
          · exact b2
  · omega
theorem zeroS_bnd : Bnd zeroS := by
  intro r
  have hz : zeroS.rn = 0 := rfl
  unfold wdS
  split
  · exact ⟨Int.le_refl _, by show (0 : Int) ≤ 1048576; omega⟩
  · split
    · omega
    · unfold rgw
      rw [hz, if_neg (by omega)]
      exact ⟨Int.le_refl _, by show (0 : Int) ≤ 1048576; omega⟩
theorem ad_in (a b : Int) (h1 : 0 ≤ a) (h2 : 0 ≤ b) (h3 : a + b ≤ 1152921504606846976) : ad a b = a + b := by
  unfold ad
  rw [cl_same a (by omega) (by omega), cl_same b (by omega) (by omega), cl_same _ (by omega) (by omega)]
end Go.Proofs.YtcjcdpfjnomehaaGreat.It

/-
  What the document's Between answers for every place.
-/
namespace Go.Proofs.YtcjcdpfjnomehaaGreat.It
open Go.RowKit
set_option linter.unusedSimpArgs false
set_option linter.unusedVariables false
def btw (s : ByteArray) (N : Nat) (a : Int) : Bool := decide (∃ j, j < N ∧ (it s j : Int) = a) || (a == (s.size : Int))
end Go.Proofs.YtcjcdpfjnomehaaGreat.It

/-
  Items in plain words: items as they lie in memory, which items may be a paragraph's, at which a line may end, and the items that a text in styles is made of, rune by rune. No program in it.
-/
namespace Go.Proofs.YtcjcdpfjnomehaaGreat.It
open Go.RowKit
set_option linter.unusedSimpArgs false
set_option linter.unusedVariables false
structure Itm where
  k : Int
  w : Int
  st : Int
  sh : Int
  fill : Bool
  c : Int
  flag : Bool
  fr : Int
  to : Int
def Itm.zero : Itm := ⟨0, 0, 0, 0, false, 0, false, 0, 0⟩
def Itm.cells (x : Itm) : List Value := [.int .i64 x.k, .int .i64 x.w, .int .i64 x.st, .int .i64 x.sh, .bool x.fill, .int .i64 x.c, .bool x.flag, .int .i64 x.fr, .int .i64 x.to]
def Itm.val (x : Itm) : Value := .agg #[.int .i64 x.k, .int .i64 x.w, .int .i64 x.st, .int .i64 x.sh, .bool x.fill, .int .i64 x.c, .bool x.flag, .int .i64 x.fr, .int .i64 x.to]
def Itm.like (a b : Itm) : Bool := (a.k == b.k) && (a.w == b.w) && (a.st == b.st) && (a.sh == b.sh) && (a.fill == b.fill) && (a.c == b.c) && (a.flag == b.flag) && (a.fr == b.fr) && (a.to == b.to)
def ics (L : List Itm) : List Value := L.flatMap Itm.cells
theorem ics_app (L M : List Itm) : ics (L ++ M) = ics L ++ ics M := by simp [ics]
theorem ics_one (x : Itm) : ics [x] = x.cells := by simp [ics]
theorem ics_len (L : List Itm) : (ics L).length = L.length * 9 := by
  induction L with
  | nil => rfl
  | cons x r ih =>
    have : ics (x :: r) = x.cells ++ ics r := by simp [ics]
    rw [this, List.length_append, ih]
    simp [Itm.cells]; omega
theorem ics_cell (L : List Itm) : ∀ u ∈ ics L, u.oneCell' = true := by
  intro u hu
  simp only [ics, List.mem_flatMap] at hu
  obtain ⟨x, _, hx⟩ := hu
  simp [Itm.cells] at hx
  rcases hx with rfl | rfl | rfl | rfl | rfl | rfl | rfl | rfl | rfl <;> rfl
theorem ics_get (L : List Itm) (i j : Nat) (hi : i < L.length) (hj : j < 9) : (ics L)[i * 9 + j]? = ((L.getD i Itm.zero).cells)[j]? := by
  induction L generalizing i with
  | nil => simp at hi
  | cons x r ih =>
    have e : ics (x :: r) = x.cells ++ ics r := by simp [ics]
    have hl : x.cells.length = 9 := rfl
    rw [e]
    cases i with
    | zero => rw [List.getElem?_append_left (by omega)]; simp
    | succ i =>
      rw [List.getElem?_append_right (by omega), hl, show (i + 1) * 9 + j - 9 = i * 9 + j by omega, ih i (by simpa using hi)]
      simp
def ItsAt (S : Nat → Prop) (w : World) (ao : Option Addr) (n : Nat) (I : Nat → Itm) : Prop := ∀ i, i < n → ∃ b off, ao = some ⟨b, off, none⟩ ∧ S b ∧
    w.cell? ⟨b, off + i * 9, none⟩ = some (.int .i64 (I i).k) ∧ w.cell? ⟨b, off + i * 9 + 1, none⟩ = some (.int .i64 (I i).w) ∧ w.cell? ⟨b, off + i * 9 + 2, none⟩ = some (.int .i64 (I i).st) ∧ w.cell? ⟨b, off + i * 9 + 3, none⟩ = some (.int .i64 (I i).sh) ∧
    w.cell? ⟨b, off + i * 9 + 4, none⟩ = some (.bool (I i).fill) ∧ w.cell? ⟨b, off + i * 9 + 5, none⟩ = some (.int .i64 (I i).c) ∧ w.cell? ⟨b, off + i * 9 + 6, none⟩ = some (.bool (I i).flag) ∧ w.cell? ⟨b, off + i * 9 + 7, none⟩ = some (.int .i64 (I i).fr) ∧ w.cell? ⟨b, off + i * 9 + 8, none⟩ = some (.int .i64 (I i).to)
theorem ItsAt.keep {S S' : Nat → Prop} {w w' : World} {ao : Option Addr} {n : Nat} {I : Nat → Itm} (h : ItsAt S w ao n I) (k : Kp S S' w w') : ItsAt S' w' ao n I := by
  intro i hi
  obtain ⟨b, off, e, hs, c0, c1, c2, c3, c4, c5, c6, c7, c8⟩ := h i hi
  exact ⟨b, off, e, (k _ _ _ hs c0).1, (k _ _ _ hs c0).2, (k _ _ _ hs c1).2, (k _ _ _ hs c2).2, (k _ _ _ hs c3).2, (k _ _ _ hs c4).2, (k _ _ _ hs c5).2, (k _ _ _ hs c6).2, (k _ _ _ hs c7).2, (k _ _ _ hs c8).2⟩
theorem ItsAt.below {S : Nat → Prop} {w w' : World} {ao : Option Addr} {n : Nat} {I : Nat → Itm} (h : ItsAt S w ao n I) (hb : Below w.heap.size w w') : ItsAt S w' ao n I := h.keep (kp_below hb)
def nth (L : List Itm) (i : Nat) : Itm := L.getD i Itm.zero
theorem ownsRow_forms {w : World} {base size n : Nat} {e : TypeId} {v : Value} {xs : List Value} (h : w.ownsRow base e size v n xs) : (v = .slice none 0 0 ∧ n = 0) ∨ ∃ g cap, v = .slice (some ⟨g, 0, none⟩) n cap := by
  rcases h.2 with ⟨h1, h2⟩ | ⟨g, cap, cur, h1, _⟩
  · exact .inl ⟨h1, h2⟩
  · exact .inr ⟨g, cap, h1⟩
theorem own_shape {w : World} {base size n : Nat} {e : TypeId} {v : Value} {xs : List Value} (h : w.ownsRow base e size v n xs) : ∃ ao cap, v = .slice ao n cap := by
  rcases ownsRow_forms h with ⟨h1, h2⟩ | ⟨g, cap, h⟩
  · exact ⟨none, 0, by rw [h2]; exact h1⟩
  · exact ⟨_, _, h⟩
theorem own_its {w : World} {B : Nat} {ao : Option Addr} {n cap : Nat} {L : List Itm} (h : w.ownsRow B 80 9 (.slice ao n cap) n (ics L)) (hl : L.length = n) : ItsAt (fun b => B ≤ b) w ao n (nth L) := by
  intro i hi
  rcases ownsRow_forms h with ⟨_, h2⟩ | ⟨g, cap', e⟩
  · omega
  · injection e with e1 e2 e3
    subst e1; subst e3
    have hB := h.lt g rfl
    have key : ∀ j, j < 9 → w.cell? ⟨g, 0 + i * 9 + j, none⟩ = ((nth L i).cells)[j]? := by
      intro j hj
      have := h.cellAt (i * 9 + j) (by omega)
      rw [show 0 + i * 9 + j = i * 9 + j by omega, this, ics_get L i j (by omega) hj]; rfl
    exact ⟨g, 0, rfl, hB.1, key 0 (by omega), key 1 (by omega), key 2 (by omega), key 3 (by omega), key 4 (by omega), key 5 (by omega), key 6 (by omega), key 7 (by omega), key 8 (by omega)⟩
def forc (x : Itm) : Bool := (x.k == 3) && decide (x.c ≤ -10000)
def legl (I : Nat → Itm) (n : Nat) (k : Int) : Bool :=
  if 0 ≤ k ∧ k < (n : Int) then (if (I k.toNat).k = 3 then decide ((I k.toNat).c < 10000) else ((I k.toNat).k == 2) && !(I k.toNat).fill && decide (0 < k) && ((I (k.toNat - 1)).k == 1)) else false
def ms (n : Int) : Bool := decide (0 ≤ n) && decide (n ≤ 68719476736)
def msd (x : Itm) : Bool := ms x.w && ms x.st && ms x.sh && decide (x.sh ≤ x.w)
def ofk (x : Itm) : Bool :=
  if x.k = 1 then (x.st == 0) && (x.sh == 0) && (x.c == 0) && !x.fill && !x.flag
  else if x.k = 2 then (x.c == 0) && !x.flag && (!x.fill || ((x.w == 0) && (x.st == 0)))
  else if x.k = 3 then (x.st == 0) && (x.sh == 0) && !x.fill && decide (-10000 ≤ x.c) && decide (x.c ≤ 10000)
  else false
def pto (I : Nat → Itm) (i : Nat) : Int := if i = 0 then 0 else (I (i - 1)).to
def okI (I : Nat → Itm) (i : Nat) : Bool := ((I i).fr == pto I i) && decide ((I i).fr ≤ (I i).to) && decide ((I i).to ≤ 65536) && msd (I i) && ofk (I i)
def rgt (I : Nat → Itm) (n : Nat) : Bool := decide (0 < n) && decide (n ≤ 262144) && forc (I (n - 1)) && (List.range n).all (okI I)
theorem rgt_iff (I : Nat → Itm) (n : Nat) : rgt I n = true ↔ 0 < n ∧ n ≤ 262144 ∧ forc (I (n - 1)) = true ∧ ∀ i, i < n → okI I i = true := by
  simp [rgt, List.all_eq_true, and_assoc]
theorem rgt_no (I : Nat → Itm) (n : Nat) (h : ¬ (0 < n ∧ n ≤ 262144 ∧ forc (I (n - 1)) = true ∧ ∀ i, i < n → okI I i = true)) : rgt I n = false := by
  cases e : rgt I n with
  | false => rfl
  | true => exact absurd ((rgt_iff I n).1 e) h
def grow (L : List Itm) (W t : Int) : List Itm := match L.getLast? with
  | none => L
  | some x => L.dropLast ++ [{ x with w := ad x.w W, to := t }]
theorem grow_snoc (A : List Itm) (x : Itm) (W t : Int) : grow (A ++ [x]) W t = A ++ [{ x with w := ad x.w W, to := t }] := by simp [grow]
def lbox (L : List Itm) : Bool := match L.getLast? with
  | none => false
  | some x => x.k == 1
theorem lbox_snoc (A : List Itm) (x : Itm) : lbox (A ++ [x]) = (x.k == 1) := by simp [lbox]
theorem snoc_of {α : Type} (l : List α) (h : 0 < l.length) : ∃ a x, l = a ++ [x] := by
  exact ⟨l.dropLast, l.getLast (by intro e; rw [e] at h; simp at h), (List.dropLast_concat_getLast _).symm⟩
theorem lbox_pos (L : List Itm) (h : lbox L = true) : ∃ A x, L = A ++ [x] ∧ x.k = 1 := by
  by_cases c : 0 < L.length
  · obtain ⟨A, x, rfl⟩ := snoc_of L c
    rw [lbox_snoc] at h
    exact ⟨A, x, rfl, by simpa using h⟩
  · have : L = [] := List.eq_nil_of_length_eq_zero (by omega)
    subst this; cases h
theorem grow_len (L : List Itm) (W t : Int) : (grow L W t).length = L.length := by
  by_cases c : 0 < L.length
  · obtain ⟨A, x, rfl⟩ := snoc_of L c
    rw [grow_snoc]; simp
  · have : L = [] := List.eq_nil_of_length_eq_zero (by omega)
    subst this; rfl
def bxI (W f t : Int) : Itm := ⟨1, W, 0, 0, false, 0, false, f, t⟩
def glI (w st sh f t : Int) : Itm := ⟨2, w, st, sh, false, 0, false, f, t⟩
def pnI (w c : Int) (flag : Bool) (f t : Int) : Itm := ⟨3, w, 0, 0, false, c, flag, f, t⟩
def flI (f : Int) : Itm := ⟨2, 0, 0, 0, true, 0, false, f, f⟩
def bxd (L : List Itm) (sy W y f t : Int) : List Itm := if lbox L = true ∧ sy = y then grow L W t else L ++ [bxI W f t]
def nx (s : Sty) (L : List Itm) (sy r y f t : Int) : List Itm × Int :=
  if kd r = 1 then (L ++ [glI s.sp s.st s.sh f t], sy)
  else if kd r = 3 then (L ++ [pnI s.hy 50 true f t], sy)
  else if kd r = 4 then (L ++ [pnI 0 0 false f t], sy)
  else if kd r = 5 then (L ++ [pnI 0 10000 false f t], sy)
  else if kd r = 7 ∨ kd r = 8 then (L ++ [flI f, pnI 0 (-10000) false f t], sy)
  else if kd r = 6 then (bxd L sy (wdS s r) y f t ++ [pnI 0 50 true t t], y)
  else (bxd L sy (wdS s r) y f t, y)
def bs (F : Nat → Sty) (n : Nat) (t : ByteArray) (Y : Nat → Int) : Nat → List Itm × Int
  | 0 => ([], 0)
  | k + 1 => nx (ofS F n (Y (it t k))) (bs F n t Y k).1 (bs F n t Y k).2 (rn t k) (Y (it t k)) (it t k) (it t (k + 1))
def fin (F : Nat → Sty) (n : Nat) (t : ByteArray) (Y : Nat → Int) (N : Nat) : List Itm :=
  if bt t (t.size - 1) = 10 then (bs F n t Y N).1 else (bs F n t Y N).1 ++ [flI t.size, pnI 0 (-10000) false t.size t.size]
theorem bxd_len (L : List Itm) (sy W y f t : Int) : (bxd L sy W y f t).length ≤ L.length + 1 := by
  unfold bxd
  split
  · rw [grow_len]; omega
  · simp
theorem nx_len (s : Sty) (L : List Itm) (sy r y f t : Int) : (nx s L sy r y f t).1.length ≤ L.length + 2 := by
  have := bxd_len L sy (wdS s r) y f t
  unfold nx
  repeat' split
  all_goals simp
  all_goals omega
theorem bs_len (F : Nat → Sty) (n : Nat) (t : ByteArray) (Y : Nat → Int) (k : Nat) : (bs F n t Y k).1.length ≤ 2 * k := by
  induction k with
  | zero => simp [bs]
  | succ k ih =>
    have := nx_len (ofS F n (Y (it t k))) (bs F n t Y k).1 (bs F n t Y k).2 (rn t k) (Y (it t k)) (it t k) (it t (k + 1))
    simp only [bs]
    omega
def pre (Ln : Nat → Int) : Nat → Int
  | 0 => 0
  | i + 1 => pre Ln i + Ln i
def sta (Ln Ys : Nat → Int) : Nat → Nat → Int → Int
  | 0, _, _ => 0
  | m + 1, i, a => if a < Ln i then Ys i else sta Ln Ys m (i + 1) (a - Ln i)
theorem sta_at (Ln Ys : Nat → Int) (n i : Nat) (a : Int) (hn : ∀ j, j < n → 0 ≤ Ln j) (hi : i < n) (h1 : pre Ln i ≤ a) (h2 : a < pre Ln (i + 1)) : ∀ j, j ≤ i → sta Ln Ys (n - j) j (a - pre Ln j) = Ys i := by
  have hm : ∀ j k, j ≤ k → k ≤ n → pre Ln j ≤ pre Ln k := by
    intro j k hjk hk
    induction k with
    | zero => have : j = 0 := by omega
              subst this; exact Int.le_refl _
    | succ k ih =>
      by_cases c : j = k + 1
      · subst c; exact Int.le_refl _
      · have := ih (by omega) (by omega)
        have := hn k (by omega)
        simp only [pre]; omega
  have key : ∀ d j, j + d = i → sta Ln Ys (n - j) j (a - pre Ln j) = Ys i := by
    intro d
    induction d with
    | zero =>
      intro j hj
      obtain rfl : j = i := by omega
      rw [show n - j = (n - j - 1) + 1 by omega]
      simp only [sta]
      rw [if_pos (by simp only [pre] at h2; omega)]
    | succ d ih =>
      intro j hj
      rw [show n - j = (n - (j + 1)) + 1 by omega]
      simp only [sta]
      have := hm (j + 1) i (by omega) (by omega)
      rw [if_neg (by simp only [pre] at this; omega), show a - pre Ln j - Ln j = a - pre Ln (j + 1) by simp only [pre]; omega]
      exact ih (j + 1) (by omega)
  intro j hj
  exact key (i - j) j (by omega)
def early (t : ByteArray) : Bool := (List.range (t.size - 1)).any fun i => bt t i == 10
theorem early_iff (t : ByteArray) : early t = true ↔ ∃ i, i < t.size - 1 ∧ bt t i = 10 := by
  simp [early, List.any_eq_true]
def cr (t : ByteArray) (N n : Nat) (Ln Ys : Nat → Int) (i : Nat) : Int :=
  if Ln i < 0 ∨ (t.size : Int) - pre Ln i < Ln i then 70 else if 0 ≤ Ys i ∧ Ys i < (n : Int) then (if btw t N (pre Ln (i + 1)) = true then 0 else 21) else 43
def crs (t : ByteArray) (N n : Nat) (Ln Ys : Nat → Int) : Nat → Int
  | 0 => 0
  | k + 1 => if crs t N n Ln Ys k = 0 then cr t N n Ln Ys k else crs t N n Ln Ys k
def ck (t : ByteArray) (N n m : Nat) (Ln Ys : Nat → Int) : Int :=
  if badAt t N < 0 then (if t.size = 0 ∨ early t = true then 70 else if crs t N n Ln Ys m = 0 then (if pre Ln m = (t.size : Int) then 0 else 70) else crs t N n Ln Ys m) else 20
end Go.Proofs.YtcjcdpfjnomehaaGreat.It

/-
  At which items a line may end, and must: what the program's Forced and Legal and the document's answer.
-/
namespace Go.Proofs.YtcjcdpfjnomehaaGreat.It
open Go.RowKit
set_option linter.unusedSimpArgs false
set_option linter.unusedVariables false
set_option maxRecDepth 100000 in
set_option maxHeartbeats 1000000 in
theorem forced_any (x : Itm) (w : World) : Calls Tryz.prog 101 #[x.val] w fun e w' => e = .returned (.bool (forc x)) ∧ Below w.heap.size w w' := by
  unfold forc Itm.val
  obtain ⟨k, wd, st, sh, fl, c, fg, fr, to⟩ := x
  simp only
  cases h1 : (k == 3)
  all_goals
    by_cases h2 : c ≤ -10000
    all_goals
      go_enter Tryz.func101, Tryz.ntmps101
      go_wp2
      go_ret
      exact ⟨ret_bool (by simp [h2]), by go_grown⟩
theorem measure_any (n : Int) (w : World) : Calls Tryz.prog 150 #[.int .i64 n] w fun e w' => e = .returned (.bool (ms n)) ∧ w' = w := by
  unfold ms
  by_cases h : 0 ≤ n
  all_goals
    go_enter Tryz.func150, Tryz.ntmps150
    go_wp2
    go_ret
    exact ⟨ret_bool (by first | (simp [h]; done) | (simp [h]; omega)), rfl⟩
end Go.Proofs.YtcjcdpfjnomehaaGreat.It

/-
  What the program's measured, ofKind, Legal and Right answer, and the document's Legal.
-/
namespace Go.Proofs.YtcjcdpfjnomehaaGreat.It
open Go.RowKit
set_option linter.unusedSimpArgs false
set_option linter.unusedVariables false
set_option maxRecDepth 100000 in
set_option maxHeartbeats 1000000 in
theorem measured_any (x : Itm) (w : World) : Calls Tryz.prog 102 #[x.val] w fun e w' => e = .returned (.bool (msd x)) ∧ Below w.heap.size w w' := by
  unfold msd Itm.val
  obtain ⟨k, wd, st, sh, fl, c, fg, fr, to⟩ := x
  simp only
  have m1 := fun w => measure_any wd w
  have m2 := fun w => measure_any st w
  have m3 := fun w => measure_any sh w
  cases h1 : ms wd
  · rw [h1] at m1
    go_enter Tryz.func102, Tryz.ntmps102
    go_wp2_with (go_at_call 150; refine (m1 _).mono ?_; rintro e w' ⟨rfl, hw'⟩; subst w')
    go_ret
    exact ⟨rfl, by go_grown⟩
  rw [h1] at m1
  cases h2 : ms st
  · rw [h2] at m2
    go_enter Tryz.func102, Tryz.ntmps102
    go_wp2_with fail
    refine (m1 _).mono ?_
    rintro e w' ⟨rfl, hw'⟩; subst w'
    go_wp2_with (go_at_call 150; refine (m2 _).mono ?_; rintro e w' ⟨rfl, hw'⟩; subst w')
    go_ret
    exact ⟨rfl, by go_grown⟩
  rw [h2] at m2
  cases h3 : ms sh
  all_goals
    rw [h3] at m3
    by_cases h4 : sh ≤ wd
    all_goals
      go_enter Tryz.func102, Tryz.ntmps102
      go_wp2_with fail
      refine (m1 _).mono ?_
      rintro e w' ⟨rfl, hw'⟩; subst w'
      go_wp2_with fail
      refine (m2 _).mono ?_
      rintro e w' ⟨rfl, hw'⟩; subst w'
      go_wp2_with (go_at_call 150; refine (m3 _).mono ?_; rintro e w' ⟨rfl, hw'⟩; subst w')
      go_ret
      exact ⟨ret_bool (by simp [h4]), by go_grown⟩
set_option maxRecDepth 100000 in
set_option maxHeartbeats 2000000 in
theorem ofKind_any (x : Itm) (w : World) : Calls Tryz.prog 103 #[x.val] w fun e w' => e = .returned (.bool (ofk x)) ∧ Below w.heap.size w w' := by
  unfold Itm.val
  have HV : Box (ofk x = ofk x) := boxed rfl
  generalize hV : ofk x = V at *
  unfold ofk at hV
  obtain ⟨k, wd, st, sh, fl, c, fg, fr, to⟩ := x
  simp only at *
  by_cases k1 : k = 1
  · subst k1
    rw [if_pos rfl] at hV
    subst hV
    cases h1 : (st == 0)
    all_goals
      cases h2 : (sh == 0)
      all_goals
        cases h3 : (c == 0)
        all_goals
          cases fl
          all_goals
            go_enter Tryz.func103, Tryz.ntmps103
            go_wp2
            go_ret
            exact ⟨ret_bool (by simp), by go_grown⟩
  by_cases k2 : k = 2
  · subst k2
    rw [if_neg (by omega), if_pos rfl] at hV
    subst hV
    cases h3 : (c == 0)
    all_goals
      cases fg
      all_goals
        cases fl
        all_goals
          cases h2 : (wd == 0)
          all_goals
            go_enter Tryz.func103, Tryz.ntmps103
            go_wp2
            go_ret
            exact ⟨ret_bool (by simp), by go_grown⟩
  by_cases k3 : k = 3
  · subst k3
    rw [if_neg (by omega), if_neg (by omega), if_pos rfl] at hV
    subst hV
    cases h1 : (st == 0)
    all_goals
      cases h2 : (sh == 0)
      all_goals
        cases fl
        all_goals
          by_cases h4 : -10000 ≤ c
          all_goals
            go_enter Tryz.func103, Tryz.ntmps103
            go_wp2
            go_ret
            exact ⟨ret_bool (by first | (simp [h4]; done) | (simp [h4]; omega)), by go_grown⟩
  rw [if_neg k1, if_neg k2, if_neg k3] at hV
  subst hV
  have t1 : (k == 1) = false := by simpa using k1
  have t2 : (k == 2) = false := by simpa using k2
  have t3 : (k == 3) = false := by simpa using k3
  go_enter Tryz.func103, Tryz.ntmps103
  go_wp2
  go_ret
  exact ⟨rfl, by go_grown⟩
end Go.Proofs.YtcjcdpfjnomehaaGreat.It

/-
  What the program's Right answers: may items be a paragraph's?
-/
namespace Go.Proofs.YtcjcdpfjnomehaaGreat.It
open Go.RowKit
set_option linter.unusedSimpArgs false
set_option linter.unusedVariables false
theorem okI_iff (I : Nat → Itm) (i : Nat) : okI I i = true ↔ ((I i).fr = pto I i ∧ (I i).fr ≤ (I i).to ∧ (I i).to ≤ 65536 ∧ msd (I i) = true ∧ ofk (I i) = true) := by
  simp [okI, and_assoc]
def rcode (b : Bool) : Int := if b = true then 0 else 70
set_option maxRecDepth 100000 in
set_option maxHeartbeats 4000000 in
theorem right_any (S : Nat → Prop) (ao : Option Addr) (n cap : Nat) (I : Nat → Itm) (w : World) (h : ItsAt S w ao n I) (hn : n ≤ maxLen) :
    Calls Tryz.prog 58 #[.slice ao n cap] w fun e w' => e = .returned (.int .i64 (rcode (rgt I n))) ∧ Below w.heap.size w w' := by
  unfold maxLen at hn
  have HT : Box (0 < n ∧ n ≤ 262144 ∧ forc (I (n - 1)) = true ∧ (∀ i, i < n → okI I i = true) → rcode (rgt I n) = 0) := boxed (fun c => by rw [(rgt_iff I n).2 c]; rfl)
  have HFl : Box (¬ (0 < n ∧ n ≤ 262144 ∧ forc (I (n - 1)) = true ∧ ∀ i, i < n → okI I i = true) → rcode (rgt I n) = 70) := boxed (fun c => by rw [rgt_no I n c]; rfl)
  generalize rcode (rgt I n) = V at *
  by_cases h0 : n = 0
  · have HV := boxed (HFl.out (by omega))
    subst h0
    clear h
    go_enter Tryz.func58, Tryz.ntmps58
    go_wp2
    go_ret
    exact ⟨ret_int HV.out.symm, Below.refl _ _⟩
  have t0 : ((n : Int) == 0) = false := by rw [beq_eq_false_iff_ne]; omega
  by_cases h1 : 262144 < n
  · have HV := boxed (HFl.out (by omega))
    have t1 : decide ((262144 : Int) < (n : Int)) = true := decide_eq_true (by omega)
    clear h h1 h0
    go_enter Tryz.func58, Tryz.ntmps58
    go_wp2
    go_ret
    exact ⟨ret_int HV.out.symm, Below.refl _ _⟩
  have t1 : decide ((262144 : Int) < (n : Int)) = false := decide_eq_false (by omega)
  obtain ⟨m, hnm⟩ : ∃ m, n - 1 = m := ⟨_, rfl⟩
  rw [hnm] at HT HFl
  have HH := boxed h
  have hm1 : m < n := by omega
  have hm2 : (m : Int) < (n : Int) := by omega
  have e6 : (n : Int) - 1 = (m : Nat) := by omega
  have hn2 : n ≤ 262144 := by omega
  obtain ⟨b, off, e, -, c0, c1, c2, c3, c4, c5, c6, c7, c8⟩ := h m (by omega)
  subst e
  have q2 : b < w.heap.size := World.block_lt_of_cell? w _ c0
  have q4 : b ≠ w.heap.size := by omega
  have hfc := fun w => forced_any (I m) w
  unfold Itm.val at hfc
  have HN := boxed (And.intro hnm hn2)
  clear h h1 h0 hnm hn2
  cases hf : forc (I m)
  · have HV := boxed (HFl.out (by rw [hf]; simp))
    rw [hf] at hfc
    generalize I m = x at *
    go_enter Tryz.func58, Tryz.ntmps58
    go_wp2_with fail
    refine (hfc _).mono ?_
    rintro e w1 ⟨rfl, hb1⟩
    have HB1 := boxed hb1
    clear hb1 hfc
    go_wp2
    go_ret
    exact ⟨ret_int HV.out.symm, HB1.out⟩
  · rw [hf] at hfc HT HFl
    generalize I m = x at hfc c0 c1 c2 c3 c4 c5 c6 c7 c8
    go_enter Tryz.func58, Tryz.ntmps58
    go_wp2_with fail
    refine (hfc _).mono ?_
    rintro e w1 ⟨rfl, hb1⟩
    have HB1 := boxed hb1
    clear hb1 hfc c0 c1 c2 c3 c4 c5 c6 c7 c8
    go_wp2
    go_loopw [3, 5, 26] (fun a _ i wr => ∃ k : Nat, k ≤ n ∧ a = .int .i64 (pto I k) ∧ i = .int .i64 (k : Int) ∧ Box (∀ j, j < k → okI I j = true) ∧ Box (Below w.heap.size w wr)) (fun _ _ i _ => n - (intOf i).toNat)
    case atStart => exact ⟨0, Nat.zero_le _, rfl, rfl, boxed (fun j hj => by omega), HB1⟩
    case round =>
      obtain ⟨k, hk, rfl, rfl, HK, HB⟩ := hrel
      by_cases hlt : k < n
      · obtain ⟨b, off, e, -, c0, c1, c2, c3, c4, c5, c6, c7, c8⟩ := (HH.out.below HB.out) k hlt
        injection e with e
        injection e with e1 e2
        subst e1; subst e2
        have q5 : b < wr.heap.size := World.block_lt_of_cell? wr _ c0
        have q6 : b ≠ wr.heap.size := by omega
        have t3 : decide ((k : Int) < (n : Int)) = true := decide_eq_true (by omega)
        have HP : Box (pto I (k + 1) = (I k).to) := boxed (by unfold pto; simp)
        have HO := boxed (okI_iff I k)
        have HBad : Box (okI I k = false → V = 70) := boxed (fun c => HFl.out (fun ⟨_, _, _, h⟩ => by have := h k hlt; rw [c] at this; cases this))
        have HNx : Box (okI I k = true → ∀ j, j < k + 1 → okI I j = true) := boxed (fun c j hj => by
          by_cases d : j = k
          · subst d; exact c
          · exact HK.out j (by omega))
        have hms := fun w => measured_any (I k) w
        have hok := fun w => ofKind_any (I k) w
        unfold Itm.val at hms hok
        generalize okI I k = OK at *
        generalize pto I k = A at *
        generalize msd (I k) = M at *
        generalize ofk (I k) = T at *
        generalize I k = x at *
        have bad : ¬ (x.fr = A ∧ x.fr ≤ x.to ∧ x.to ≤ 65536 ∧ M = true ∧ T = true) → V = 70 := fun c => HBad.out (by
          cases e : OK with
          | false => rfl
          | true => exact absurd (HO.out.1 e) c)
        replace bad := boxed bad
        by_cases g1 : x.fr = A
        rotate_left
        · have t4 : (x.fr != A) = true := by simpa using g1
          have HV := boxed (bad.out (fun c => g1 c.1))
          clear g1 hms hok
          go_wp2
          go_ret
          exact ⟨ret_int HV.out.symm, by have hb := HB.out; have hz := HB.out.size; go_grown⟩
        have t4 : (x.fr != A) = false := by simpa using g1
        by_cases g2 : x.to < x.fr
        · have t5 : decide (x.to < x.fr) = true := decide_eq_true g2
          have HV := boxed (bad.out (fun c => by omega))
          clear g1 g2 hms hok
          go_wp2
          go_ret
          exact ⟨ret_int HV.out.symm, by have hb := HB.out; have hz := HB.out.size; go_grown⟩
        have t5 : decide (x.to < x.fr) = false := decide_eq_false g2
        by_cases g3 : 65536 < x.to
        · have t6 : decide (65536 < x.to) = true := decide_eq_true g3
          have HV := boxed (bad.out (fun c => by omega))
          clear g1 g2 g3 hms hok
          go_wp2
          go_ret
          exact ⟨ret_int HV.out.symm, by have hb := HB.out; have hz := HB.out.size; go_grown⟩
        have t6 : decide (65536 < x.to) = false := decide_eq_false g3
        have HG := boxed (And.intro g1 (And.intro (show x.fr ≤ x.to by omega) (show x.to ≤ 65536 by omega)))
        clear g1 g2 g3
        have HB2 : Box (Below w.heap.size w (wr.alloc (.cells #[.int .i64 x.k, .int .i64 x.w, .int .i64 x.st, .int .i64 x.sh, .bool x.fill, .int .i64 x.c, .bool x.flag, .int .i64 x.fr, .int .i64 x.to] 80))) := boxed (HB.out.alloc HB.out.size _)
        have hx : ∀ (W : World), Below (wr.heap.size + 1) (wr.alloc (.cells #[.int .i64 x.k, .int .i64 x.w, .int .i64 x.st, .int .i64 x.sh, .bool x.fill, .int .i64 x.c, .bool x.flag, .int .i64 x.fr, .int .i64 x.to] 80)) W → ∀ j, W.cell? ⟨wr.heap.size, j, none⟩ = (#[.int .i64 x.k, .int .i64 x.w, .int .i64 x.st, .int .i64 x.sh, .bool x.fill, .int .i64 x.c, .bool x.flag, .int .i64 x.fr, .int .i64 x.to] : Array Value)[j]? := by
          intro W hb j
          rw [hb.cell (p := ⟨wr.heap.size, j, none⟩) (by simp)]
          exact cell_first _ _ _ _
        replace hx := boxed hx
        cases M
        · have HV := boxed (bad.out (fun c => by cases c.2.2.2.1))
          go_wp2_with fail
          refine (hms _).mono ?_
          rintro e w2 ⟨rfl, hb2⟩
          have HB3 := boxed (below_step HB2.out (Nat.le_refl _) hb2)
          clear hb2 hms
          go_wp2
          go_ret
          exact ⟨ret_int HV.out.symm, HB3.out⟩
        · go_wp2_with fail
          refine (hms _).mono ?_
          rintro e w2 ⟨rfl, hb2⟩
          have HB3 := boxed (below_step HB2.out (Nat.le_refl _) hb2)
          have hx2 := hx.out w2 (by simpa using hb2)
          have hz2 : wr.heap.size < w2.heap.size := by have := hb2.size; simp at this; omega
          have d0 := hx2 0
          have d1 := hx2 1
          have d2 := hx2 2
          have d3 := hx2 3
          have d4 := hx2 4
          have d5 := hx2 5
          have d6 := hx2 6
          have d7 := hx2 7
          have d8 := hx2 8
          simp at d0 d1 d2 d3 d4 d5 d6 d7 d8
          clear hms c0 c1 c2 c3 c4 c5 c6 c7 c8 hx2
          go_wp2_with fail
          refine (hok _).mono ?_
          rintro e w3 ⟨rfl, hb3⟩
          have HB4 := boxed (below_step HB3.out (Nat.le_refl _) hb3)
          have d9 := hold hb3 d8
          clear hok hb2 hb3
          cases T
          · have HV := boxed (bad.out (fun c => by cases c.2.2.2.2))
            go_wp2
            go_ret
            exact ⟨ret_int HV.out.symm, HB4.out⟩
          · have HN1 := boxed (HNx.out (HO.out.2 ⟨HG.out.1, HG.out.2.1, HG.out.2.2, by simp, by simp⟩))
            go_wp2
            go_roundw
            case rel => exact ⟨k + 1, by omega, by rw [HP.out], by go_num, HN1, HB4⟩
            case measure => simp [intOf]; omega
      · have e : k = n := by omega
        subst e
        have HV := boxed (HT.out ⟨by omega, HN.out.2, trivial, HK.out⟩)
        go_wp2
        go_ret
        exact ⟨ret_int HV.out.symm, HB.out⟩
end Go.Proofs.YtcjcdpfjnomehaaGreat.It
