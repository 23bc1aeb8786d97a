/-
  What the program's low and Append answer: the bytes that were handed in and behind them those of the rune, in new memory; these alone, if the number is no rune.
-/
import Derived.Test.YtifehmifgapodabUr
import Derived.Laws.CopyOwn
namespace Go.Proofs.Ytifehmifgapodab
open Go.RowKit
set_option linter.unusedSimpArgs false
set_option linter.unusedVariables false

theorem info_byte : (Try.prog.info? 5).map (fun i => (i.zero, i.size, i.bytes)) = some (some (.int .u8 0), 1, 1) := by kernel_rfl
theorem size_byte : (Try.prog.info? 5).map (·.size) = some 1 := by kernel_rfl

/-- Bytes as they lie in memory. -/
def bvals (l : List Nat) : List Value := l.map fun (d : Nat) => Value.int .u8 (d : Int)
theorem bvals_len (l : List Nat) : (bvals l).length = l.length := by simp [bvals]
theorem bvals_get (l : List Nat) (j : Nat) (h : j < l.length) : (bvals l)[j]? = some (.int .u8 ((l.getD j 0 : Nat) : Int)) := by
  simp [bvals, h]
theorem bvals_app (l m : List Nat) : bvals l ++ bvals m = bvals (l ++ m) := by simp [bvals]
theorem bvals_one (l : List Nat) : ∀ v ∈ bvals l, v.oneCell' = true := by
  intro v hv
  simp only [bvals, List.mem_map] at hv
  obtain ⟨d, _, rfl⟩ := hv
  rfl

theorem add_block (x : Addr) (i : Nat) : (x.add i).block = x.block := by unfold Addr.add; split <;> rfl
/-- The address leads to the bytes: nothing is asked of it where there is none. -/
def Bg (w : World) (ao : Option Addr) (cap : Nat) (l : List Nat) : Prop :=
  (l.length ≤ cap ∧ cap ≤ maxLen) ∧ (l = [] ∨ ∃ x, ao = some x ∧ x.block < w.heap.size ∧ ∀ i, i < l.length → w.cell? (x.add i) = some (.int .u8 ((l.getD i 0 : Nat) : Int)))

theorem Bg.below {w w' : World} {ao : Option Addr} {cap : Nat} {l : List Nat} (h : Bg w ao cap l) (hb : Below w.heap.size w w') : Bg w' ao cap l := by
  obtain ⟨hc, h⟩ := h
  refine ⟨hc, ?_⟩
  rcases h with h | ⟨x, h1, h2, h3⟩
  · exact Or.inl h
  · refine Or.inr ⟨x, h1, Nat.lt_of_lt_of_le h2 hb.size, fun i hi => ?_⟩
    rw [hb.cell (p := x.add i) (by rw [add_block]; exact h2)]
    exact h3 i hi

theorem bg_of_owns {w : World} {base n : Nat} {v : Value} {l : List Nat} (h : w.ownsRow base 5 1 v n (bvals l)) : n = l.length ∧ ∃ ao cap, v = .slice ao l.length cap ∧ Bg w ao cap l := by
  have hl : l.length = n := by have := h.1; rw [bvals_len] at this; omega
  refine ⟨hl.symm, ?_⟩
  subst hl
  rcases h.2 with ⟨rfl, h0⟩ | ⟨g, cap, cur, rfl, hg, hh, hle, hm, hc, ht⟩
  · have : l = [] := List.eq_nil_of_length_eq_zero h0
    subst this
    exact ⟨none, 0, rfl, ⟨by simp, by unfold maxLen; omega⟩, Or.inl rfl⟩
  · refine ⟨some ⟨g, 0, none⟩, cap, rfl, ⟨hle, hm⟩, Or.inr ⟨⟨g, 0, none⟩, rfl, ?_, fun i hi => ?_⟩⟩
    · exact (h.lt g rfl).2
    · have := h.cellAt i (by omega)
      have hadd : (⟨g, 0, none⟩ : Addr).add i = ⟨g, i, none⟩ := by unfold Addr.add; split <;> simp_all
      rw [hadd, this, bvals_get l i hi]

set_option maxRecDepth 100000 in
theorem low_any (r : Int) (w : World) (h0 : 0 ≤ r) (hr : r ≤ 1114111) :
    Calls Try.prog 17 #[.int .i32 r] w fun e w' => e = .returned (.int .u8 (128 + r % 64)) ∧ w' = w := by
  have ha : bits .and .i32 r 63 = r % 64 := bits_mask .i32 31 (by decide) wraps_i32 6 (by decide) r h0 (by omega)
  go_enter Try.func17, Try.ntmps17
  go_wp2
  go_ret
  exact ⟨ret_int (by simp), rfl⟩

/-- The bytes of a number: none, if it is no rune. -/
def byr (r : Int) : List Nat := if isR r = true then byts r.toNat else []

/-- The copy into new room: what it leaves. -/
theorem copy_made (ao : Option Addr) (cap : Nat) (l : List Nat) (w : World) (hl : l.length ≤ 100000)
    (hd : l = [] ∨ ∃ x, ao = some x ∧ x.block < w.heap.size ∧ ∀ i, i < l.length → w.cell? (x.add i) = some (.int .u8 ((l.getD i 0 : Nat) : Int))) :
    ∃ W1, (Builtin.copy_ #[23, 23] 3 #[.slice (some ⟨w.heap.size, 0, none⟩) l.length (l.length + 4), .slice ao l.length cap]).run Try.prog (w.alloc (.cells (Array.replicate (l.length + 4) (Value.int .u8 0)) 5)) = .ok (.int .i64 (l.length : Int)) W1 ∧
      W1.ownsRow w.heap.size 5 1 (.slice (some ⟨w.heap.size, 0, none⟩) l.length (l.length + 4)) l.length (bvals l) ∧ Below w.heap.size w W1 := by
  have hnew := heap_alloc_new w (.cells (Array.replicate (l.length + 4) (Value.int .u8 0)) 5)
  have hbl : Below w.heap.size w (w.alloc (.cells (Array.replicate (l.length + 4) (Value.int .u8 0)) 5)) := (Below.refl _ _).alloc (Nat.le_refl _) _
  rcases hd with hx | ⟨x, rfl, hb, hc⟩
  · subst hx
    have h := run_copy_none (P := Try.prog) (w.alloc (.cells (Array.replicate 4 (Value.int .u8 0)) 5)) 23 23 3 5 (some ⟨w.heap.size, 0, none⟩) ao 0 4 0 cap Try.underlying23 size_byte rfl
    refine ⟨_, h, ⟨by simp [bvals], .inr ⟨w.heap.size, 4, _, rfl, Nat.le_refl _, hnew, by simp, by unfold maxLen; omega, by simp, by simp [bvals]⟩⟩, hbl⟩
  · have hsrc : ∀ j v, (bvals l)[j]? = some v → (w.alloc (.cells (Array.replicate (l.length + 4) (Value.int .u8 0)) 5)).cell? (x.add j) = some v := by
      intro j v hj
      have hj' : j < l.length := by
        have := (List.getElem?_eq_some_iff.1 hj).1
        rwa [bvals_len] at this
      rw [bvals_get l j hj'] at hj
      rw [hbl.cell (p := x.add j) (by rw [add_block]; exact hb), hc j hj']
      exact hj
    have h := run_copy_row (P := Try.prog) (w.alloc (.cells (Array.replicate (l.length + 4) (Value.int .u8 0)) 5)) 23 23 3 5 w.heap.size 0 l.length (l.length + 4) x l.length cap _ 5 (bvals l) Try.underlying23 size_byte hnew
      (by rw [bvals_len]; simp) hsrc (by rw [bvals_len]; simp) (bvals_one l)
    rw [bvals_len] at h
    refine ⟨_, h, ⟨by rw [bvals_len]; omega, .inr ⟨w.heap.size, l.length + 4, _, rfl, Nat.le_refl _, setRow_heap _ w.heap.size _ _ 5 _ hnew, by omega, by unfold maxLen; omega, ?_, ?_⟩⟩, ?_⟩
    · simp [bvals_len]
    · simp [bvals_len]
    · exact hbl.trans ⟨rfl, rfl, rfl, by simp, fun k hk => setRow_other _ w.heap.size k _ (by omega)⟩

set_option maxRecDepth 100000 in
set_option maxHeartbeats 1600000 in
theorem append_any (ao : Option Addr) (cap : Nat) (l : List Nat) (r : Int) (w : World) (hd : Bg w ao cap l) (hl : l.length ≤ 100000) (hr : -2147483648 ≤ r ∧ r ≤ 2147483647) :
    Calls Try.prog 7 #[.slice ao l.length cap, .int .i32 r] w fun e w' => ∃ ao' cap', e = .returned (.slice ao' (l ++ byr r).length cap') ∧ Bg w' ao' cap' (l ++ byr r) ∧ Below w.heap.size w w' ∧ ∀ x, ao' = some x → w.heap.size ≤ x.block := by
  obtain ⟨i0, hi, hz0, hz1, hz2⟩ := info_parts info_byte
  obtain ⟨⟨c1, c2⟩, hd⟩ := hd
  obtain ⟨W1, hcp, hown, hb1⟩ := copy_made ao cap l w hl hd
  clear hd
  unfold maxLen at c2
  have hmk : ∀ u : World, (Instr.makeSlice 23 (.int .i64 (l.length : Int)) (.int .i64 ((l.length : Int) + 4))).run Try.prog u =
      .ok (.slice (some ⟨u.heap.size, 0, none⟩) l.length (l.length + 4)) (u.alloc (.cells (Array.replicate (l.length + 4) (Value.int .u8 0)) 5)) := fun u => by
    have h := run_make (P := Try.prog) u 23 5 i0 (.int .u8 0) Try.underlying23 hi hz0 .i64 .i64 (l.length : Int) ((l.length : Int) + 4) (by omega) (by omega) (by rw [hz2]; omega) (by omega)
    have e1 : ((l.length : Int) + 4).toNat = l.length + 4 := by omega
    rw [e1] at h
    have e2 : madeCells #[Value.int .u8 0] (l.length + 4) = Array.replicate (l.length + 4) (Value.int .u8 0) := by
      apply Array.ext'
      rw [toList_madeCells_one]; simp
    simpa [hz1, Value.cells, e2] using h
  have hsz1 := hb1.size
  have HB := boxed hb1
  clear hb1
  cases hx : isR r with
  | false =>
    have hby : Box (byr r = []) := boxed (by unfold byr; rw [hx]; simp)
    have hex := fun w => exists_any r w
    rw [hx] at hex
    obtain ⟨-, ao', cap', hv, hg⟩ := bg_of_owns hown
    injection hv with e1 e2 e3
    subst e1; subst e3
    have HG := boxed hg
    clear hg hown
    go_enter Try.func7, Try.ntmps7
    go_wp2_with (go_at_call 16; refine (hex _).mono ?_; rintro e w' ⟨rfl, hw'⟩; subst w')
    go_ret
    rw [hby.out, List.append_nil]
    exact ⟨_, _, rfl, HG.out, HB.out, fun x hx => by injection hx with hx; subst hx; exact Nat.le_refl _⟩
  | true =>
    have hex := fun w => exists_any r w
    rw [hx] at hex
    have hrr := isR_t r hx
    obtain ⟨k, rfl⟩ : ∃ k : Nat, r = (k : Int) := ⟨r.toNat, by omega⟩
    by_cases h1 : k < 128
    · have hby : Box (byr (k : Int) = [k]) := boxed (by unfold byr; rw [if_pos hx]; simp only [Int.toNat_natCast]; exact byts_1 k h1)
      have d1 : decide ((k : Int) < 128) = true := decide_eq_true (by omega)
      clear hx
      go_enter Try.func7, Try.ntmps7
      go_wp2_with (first | (go_at_call 16; refine (hex _).mono ?_; rintro e w' ⟨rfl, hw'⟩; subst w') | (go_at_call 17; refine (low_any _ _ (by omega) (by omega)).mono ?_; rintro e w' ⟨rfl, hw'⟩; subst w') | (at_builtin; refine wpList_append_own _ rfl _ _ 23 rfl w.heap.size 5 i0 (.int .u8 0) 1 1 Try.underlying23 hi hz0 hz1 hz2 rfl (by decide) _ _ _ rfl (hown.alloc _) ⟨W1.heap.size, 0, none⟩ 1 1 (bvals [k]) rfl rfl ?c1 (bvals_one _) ?c3 ?c4 ?c5 ?_))
      case c1 =>
        intro j u hj
        have hj' : j < 1 := by have := (List.getElem?_eq_some_iff.1 hj).1; simpa [bvals] using this
        match j, hj', hj with
        | 0, _, hj => simp [bvals] at hj; subst hj; simp [Addr.add]
      case c3 => unfold maxLen; omega
      case c4 => omega
      case c5 => simp; omega
      intro v' w2 hown2 hgrow2 _
      have hb2 : Below w.heap.size w w2 := (HB.out.alloc (by omega) _).grown hgrow2 (by simp; omega) (fun k hk => (hown.lt k hk).1)
      rw [bvals_app] at hown2
      obtain ⟨-, ao', cap', rfl, hg⟩ := bg_of_owns hown2
      have HN : Box (∀ x, ao' = some x → w.heap.size ≤ x.block) := boxed (fun x hx => (hown2.lt x.block (by rw [hx]; rfl)).1)
      have HG := boxed hg
      have HB2 := boxed hb2
      clear hg hown2 hgrow2 hb2 hown
      go_wp2
      go_ret
      rw [hby.out]
      exact ⟨_, _, rfl, HG.out, HB2.out, HN.out⟩
    by_cases h2 : k < 2048
    · have hby : Box (byr (k : Int) = [192 + k / 64, 128 + k % 64]) := boxed (by unfold byr; rw [if_pos hx]; simp only [Int.toNat_natCast]; exact byts_2 k (by omega) h2)
      have d1 : decide ((k : Int) < 128) = false := decide_eq_false (by omega)
      have d2 : decide ((k : Int) < 2048) = true := decide_eq_true (by omega)
      clear hx
      go_enter Try.func7, Try.ntmps7
      go_wp2_with (first | (go_at_call 16; refine (hex _).mono ?_; rintro e w' ⟨rfl, hw'⟩; subst w') | (go_at_call 17; refine (low_any _ _ (by omega) (by omega)).mono ?_; rintro e w' ⟨rfl, hw'⟩; subst w') | (at_builtin; refine wpList_append_own _ rfl _ _ 23 rfl w.heap.size 5 i0 (.int .u8 0) 1 1 Try.underlying23 hi hz0 hz1 hz2 rfl (by decide) _ _ _ rfl (hown.alloc _) ⟨W1.heap.size, 0, none⟩ 2 2 (bvals [192 + k / 64, 128 + k % 64]) rfl rfl ?c1 (bvals_one _) ?c3 ?c4 ?c5 ?_))
      case c1 =>
        intro j u hj
        have hj' : j < 2 := by have := (List.getElem?_eq_some_iff.1 hj).1; simpa [bvals] using this
        match j, hj', hj with
        | 0, _, hj => simp [bvals] at hj; subst hj; simp [Addr.add]
        | 1, _, hj => simp [bvals] at hj; subst hj; simp [Addr.add]
      case c3 => unfold maxLen; omega
      case c4 => omega
      case c5 => simp; omega
      intro v' w2 hown2 hgrow2 _
      have hb2 : Below w.heap.size w w2 := (HB.out.alloc (by omega) _).grown hgrow2 (by simp; omega) (fun k hk => (hown.lt k hk).1)
      rw [bvals_app] at hown2
      obtain ⟨-, ao', cap', rfl, hg⟩ := bg_of_owns hown2
      have HN : Box (∀ x, ao' = some x → w.heap.size ≤ x.block) := boxed (fun x hx => (hown2.lt x.block (by rw [hx]; rfl)).1)
      have HG := boxed hg
      have HB2 := boxed hb2
      clear hg hown2 hgrow2 hb2 hown
      go_wp2
      go_ret
      rw [hby.out]
      exact ⟨_, _, rfl, HG.out, HB2.out, HN.out⟩
    by_cases h3 : k < 65536
    · have hby : Box (byr (k : Int) = [224 + k / 4096, 128 + k / 64 % 64, 128 + k % 64]) := boxed (by unfold byr; rw [if_pos hx]; simp only [Int.toNat_natCast]; exact byts_3 k (by omega) h3 hx)
      have d1 : decide ((k : Int) < 128) = false := decide_eq_false (by omega)
      have d2 : decide ((k : Int) < 2048) = false := decide_eq_false (by omega)
      have d3 : decide ((k : Int) < 65536) = true := decide_eq_true (by omega)
      have z1 : (k : Int) ≤ 1114111 := by omega
      have z0 : (0 : Int) ≤ (k : Int) := by omega
      clear hx
      go_enter Try.func7, Try.ntmps7
      go_wp2_with (first | (go_at_call 16; refine (hex _).mono ?_; rintro e w' ⟨rfl, hw'⟩; subst w') | (go_at_call 17; refine (low_any _ _ (by omega) (by omega)).mono ?_; rintro e w' ⟨rfl, hw'⟩; subst w') | (at_builtin; refine wpList_append_own _ rfl _ _ 23 rfl w.heap.size 5 i0 (.int .u8 0) 1 1 Try.underlying23 hi hz0 hz1 hz2 rfl (by decide) _ _ _ rfl (hown.alloc _) ⟨W1.heap.size, 0, none⟩ 3 3 (bvals [224 + k / 4096, 128 + k / 64 % 64, 128 + k % 64]) rfl rfl ?c1 (bvals_one _) ?c3 ?c4 ?c5 ?_))
      case c1 =>
        intro j u hj
        have hj' : j < 3 := by have := (List.getElem?_eq_some_iff.1 hj).1; simpa [bvals] using this
        match j, hj', hj with
        | 0, _, hj => simp [bvals] at hj; subst hj; simp [Addr.add]
        | 1, _, hj => simp [bvals] at hj; subst hj; simp [Addr.add]
        | 2, _, hj => simp [bvals] at hj; subst hj; simp [Addr.add]
      case c3 => unfold maxLen; omega
      case c4 => omega
      case c5 => simp; omega
      intro v' w2 hown2 hgrow2 _
      have hb2 : Below w.heap.size w w2 := (HB.out.alloc (by omega) _).grown hgrow2 (by simp; omega) (fun k hk => (hown.lt k hk).1)
      rw [bvals_app] at hown2
      obtain ⟨-, ao', cap', rfl, hg⟩ := bg_of_owns hown2
      have HN : Box (∀ x, ao' = some x → w.heap.size ≤ x.block) := boxed (fun x hx => (hown2.lt x.block (by rw [hx]; rfl)).1)
      have HG := boxed hg
      have HB2 := boxed hb2
      clear hg hown2 hgrow2 hb2 hown
      go_wp2
      go_ret
      rw [hby.out]
      exact ⟨_, _, rfl, HG.out, HB2.out, HN.out⟩
    · have hby : Box (byr (k : Int) = [240 + k / 262144, 128 + k / 4096 % 64, 128 + k / 64 % 64, 128 + k % 64]) := boxed (by unfold byr; rw [if_pos hx]; simp only [Int.toNat_natCast]; exact byts_4 k (by omega) hx)
      have d1 : decide ((k : Int) < 128) = false := decide_eq_false (by omega)
      have d2 : decide ((k : Int) < 2048) = false := decide_eq_false (by omega)
      have d3 : decide ((k : Int) < 65536) = false := decide_eq_false (by omega)
      have z1 : (k : Int) ≤ 1114111 := by omega
      have z0 : (0 : Int) ≤ (k : Int) := by omega
      clear hx
      go_enter Try.func7, Try.ntmps7
      go_wp2_with (first | (go_at_call 16; refine (hex _).mono ?_; rintro e w' ⟨rfl, hw'⟩; subst w') | (go_at_call 17; refine (low_any _ _ (by omega) (by omega)).mono ?_; rintro e w' ⟨rfl, hw'⟩; subst w') | (at_builtin; refine wpList_append_own _ rfl _ _ 23 rfl w.heap.size 5 i0 (.int .u8 0) 1 1 Try.underlying23 hi hz0 hz1 hz2 rfl (by decide) _ _ _ rfl (hown.alloc _) ⟨W1.heap.size, 0, none⟩ 4 4 (bvals [240 + k / 262144, 128 + k / 4096 % 64, 128 + k / 64 % 64, 128 + k % 64]) rfl rfl ?c1 (bvals_one _) ?c3 ?c4 ?c5 ?_))
      case c1 =>
        intro j u hj
        have hj' : j < 4 := by have := (List.getElem?_eq_some_iff.1 hj).1; simpa [bvals] using this
        match j, hj', hj with
        | 0, _, hj => simp [bvals] at hj; subst hj; simp [Addr.add]
        | 1, _, hj => simp [bvals] at hj; subst hj; simp [Addr.add]
        | 2, _, hj => simp [bvals] at hj; subst hj; simp [Addr.add]
        | 3, _, hj => simp [bvals] at hj; subst hj; simp [Addr.add]
      case c3 => unfold maxLen; omega
      case c4 => omega
      case c5 => simp; omega
      intro v' w2 hown2 hgrow2 _
      have hb2 : Below w.heap.size w w2 := (HB.out.alloc (by omega) _).grown hgrow2 (by simp; omega) (fun k hk => (hown.lt k hk).1)
      rw [bvals_app] at hown2
      obtain ⟨-, ao', cap', rfl, hg⟩ := bg_of_owns hown2
      have HN : Box (∀ x, ao' = some x → w.heap.size ≤ x.block) := boxed (fun x hx => (hown2.lt x.block (by rw [hx]; rfl)).1)
      have HG := boxed hg
      have HB2 := boxed hb2
      clear hg hown2 hgrow2 hb2 hown
      go_wp2
      go_ret
      rw [hby.out]
      exact ⟨_, _, rfl, HG.out, HB2.out, HN.out⟩
end Go.Proofs.Ytifehmifgapodab
