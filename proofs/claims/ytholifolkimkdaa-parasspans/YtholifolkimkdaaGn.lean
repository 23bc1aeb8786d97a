/-
  What the document's Open, Find, Starts, Count and Span answer.
-/
import Derived.Test.YtholifolkimkdaaGg
import Derived.Test.YtholifolkimkdaaGi
namespace Go.Proofs.Ytholifolkimkdaa
open Go.RowKit
set_option linter.unusedSimpArgs false
set_option linter.unusedVariables false

theorem ln_app (s t : ByteArray) : ln (s ++ t) = ln s ++ ln t := by simp [ln, lnl]
theorem ln_ext (s : ByteArray) (i j : Nat) : ln (s.extract i j) = ((ln s).take j).drop i := by
  unfold ln lnl
  rw [← List.map_take, ← List.map_drop]
  congr 1
  rw [ByteArray.data_extract, Array.toList_extract, List.extract_eq_take_drop, List.drop_take]
/-- A byte, or 256. -/
def bt (s : ByteArray) (i : Nat) : Nat := if h : i < s.size then (s[i]'h).toNat else 256
theorem idx (s : ByteArray) (k : Nat) (hk : k < s.size) (i : Int) (hi : i = (k : Int)) (w : World) : (Instr.index 9 (.string s) (.int .i64 i)).run Try.prog w = .ok (.int .u8 (bt s k : Nat)) w := by
  subst hi
  have h3 : ((k : Int)).toNat = k := by simp
  unfold bt
  rw [dif_pos hk]
  go_simp
theorem ln_bt (s : ByteArray) (k : Nat) (hk : k < s.size) : (ln s).getD k false = ((bt s k : Int) == 10) := by
  unfold bt
  rw [dif_pos hk]
  have h1 : (ln s)[k]? = some (s[k] == 10) := by
    unfold ln lnl
    rw [List.getElem?_map, Lib.data_getElem? s k hk]; rfl
  rw [List.getD_eq_getElem?_getD, h1, Option.getD_some]
  by_cases c : s[k] = 10
  · rw [c]; rfl
  · have : (s[k] == 10) = false := by simpa using c
    rw [this]
    symm
    rw [beq_eq_false_iff_ne]
    intro e
    exact c (UInt8.toNat_inj.1 (by have : s[k].toNat = 10 := by omega
                                   rw [this]; rfl))

set_option maxRecDepth 100000 in
theorem ropen_any (s : ByteArray) (w : World) (hs : s.size ≤ 1048576) : Calls Try.prog 15 #[.string s] w fun e w' => e = .returned (.bool (op (ln s))) ∧ w' = w := by
  by_cases h0 : s.size = 0
  · have e : op (ln s) = false := by
      have : ln s = [] := List.length_eq_zero_iff.1 (by rw [ln_len]; exact h0)
      rw [this]; rfl
    rw [e]
    have t0 : decide ((0 : Int) < (s.size : Int)) = false := decide_eq_false (by omega)
    have t0' : decide (0 < s.size) = false := decide_eq_false (by omega)
    clear e
    go_enter Try.func15, Try.ntmps15
    go_wp2
    go_ret
    exact ⟨rfl, rfl⟩
  · obtain ⟨m, hm⟩ : ∃ m, s.size = m + 1 := ⟨s.size - 1, by omega⟩
    have e : op (ln s) = !((bt s m : Int) == 10) := by
      rw [op_last (ln s) (by rw [ln_len]; omega), ln_len, hm, Nat.add_sub_cancel, ln_bt s m (by omega)]
    rw [e]
    have t0 : decide ((0 : Int) < (s.size : Int)) = true := decide_eq_true (by omega)
    have t0' : decide (0 < s.size) = true := decide_eq_true (by omega)
    have hx := idx s m (by omega) ((s.size : Int) - 1) (by omega)
    clear e
    replace hm := boxed hm
    generalize bt s m = V at *
    go_enter Try.func15, Try.ntmps15
    go_wp2
    go_ret
    exact ⟨rfl, rfl⟩

theorem fnd_zero (l : List Bool) : fnd l 0 = 0 := by simp [fnd]
theorem fnd_succ (l : List Bool) (k : Nat) (hk : k < l.length) : fnd l (k + 1) = fnd l k + (l.getD k false).toNat := by
  unfold fnd
  rw [List.take_add_one, List.getElem?_eq_getElem hk, List.count_append]
  simp [List.getElem?_eq_getElem hk]
  cases l[k] <;> simp

set_option maxRecDepth 100000 in
theorem rfind_any (s : ByteArray) (a : Nat) (w : World) (hs : s.size ≤ 1048576) (ha : a ≤ s.size) : Calls Try.prog 19 #[.string s, .int .i64 (a : Nat)] w fun e w' => e = .returned (.int .i64 (fnd (ln s) a : Nat)) ∧ w' = w := by
  go_enter Try.func19, Try.ntmps19
  go_wp2
  go_loop [5, 6] (fun n i => ∃ k : Nat, k ≤ a ∧ i = .int .i64 (k : Nat) ∧ n = .int .i64 (fnd (ln s) k : Nat)) (fun _ i => a - (intOf i).toNat)
  case atStart => exact ⟨0, Nat.zero_le _, rfl, by rw [fnd_zero]; rfl⟩
  case round =>
    obtain ⟨k, hk, rfl, rfl⟩ := hrel
    have hfl := fnd_le (ln s) k
    rw [ln_len] at hfl
    by_cases hlt : k < a
    · have hx := idx s k (by omega) (k : Int) rfl
      have hsc := fnd_succ (ln s) k (by rw [ln_len]; omega)
      rw [ln_bt s k (by omega)] at hsc
      by_cases h10 : bt s k = 10
      · have HS : Box (fnd (ln s) (k + 1) = fnd (ln s) k + 1) := boxed (by rw [hsc, h10]; rfl)
        rw [h10] at hx
        clear hsc h10
        generalize fnd (ln s) k = A at *
        go_wp2
        go_round
        case rel => exact ⟨k + 1, by omega, by go_num, by rw [HS.out]; go_num⟩
        case measure => simp [intOf]; omega
      · have hd : ((bt s k : Int) == 10) = false := by rw [beq_eq_false_iff_ne]; omega
        have HS : Box (fnd (ln s) (k + 1) = fnd (ln s) k) := boxed (by rw [hsc, hd]; rfl)
        clear hsc h10
        generalize bt s k = V at *
        generalize fnd (ln s) k = A at *
        go_wp2
        go_round
        case rel => exact ⟨k + 1, by omega, by go_num, by rw [HS.out]⟩
        case measure => simp [intOf]; omega
    · obtain rfl : k = a := by omega
      generalize hA : fnd (ln s) k = A at *
      replace hA := boxed hA
      go_wp2
      go_ret
      exact ⟨by rw [hA.out]; rfl, rfl⟩

/-- Where paragraphs of these sizes begin. -/
def bgs : Nat → List Nat → List Nat
  | _, [] => []
  | a, n :: t => a :: bgs (a + n) t
theorem bgs_len (a : Nat) (P : List Nat) : (bgs a P).length = P.length := by
  induction P generalizing a with
  | nil => rfl
  | cons n t ih => simp [bgs, ih]
theorem bgs_app (a : Nat) (P Q : List Nat) : bgs a (P ++ Q) = bgs a P ++ bgs (a + P.sum) Q := by
  induction P generalizing a with
  | nil => simp [bgs]
  | cons n t ih => simp [bgs, ih, Nat.add_assoc]
theorem bgs_get (a : Nat) (P : List Nat) (i : Nat) (h : i < P.length) : (bgs a P).getD i 0 = a + Bg P i := by
  induction P generalizing a i with
  | nil => simp at h
  | cons n t ih =>
    cases i with
    | zero => simp [bgs, Bg]
    | succ i =>
      have := ih (a + n) i (by simpa using h)
      rw [Bg_cons]
      simp only [bgs, List.getD_cons_succ]
      omega
/-- Where the paragraphs begin, and the length behind. -/
def sts (l : List Bool) : List Nat := bgs 0 (sp l) ++ [l.length]
theorem sts_len (l : List Bool) : (sts l).length = (sp l).length + 1 := by simp [sts, bgs_len]
theorem sts_get (l : List Bool) (k : Nat) (h : k ≤ (sp l).length) : (sts l).getD k 0 = Bg (sp l) k := by
  unfold sts
  by_cases c : k < (sp l).length
  · rw [List.getD_eq_getElem?_getD, List.getElem?_append_left (by rw [bgs_len]; exact c), ← List.getD_eq_getElem?_getD, bgs_get 0 _ k c, Nat.zero_add]
  · obtain rfl : k = (sp l).length := by omega
    rw [List.getD_eq_getElem?_getD, List.getElem?_append_right (by rw [bgs_len]; exact Nat.le_refl _), bgs_len, Nat.sub_self, Bg_sp _ _ (Nat.le_refl _)]
    rfl
/-- One byte more. -/
theorem bgs_step (l : List Bool) (k : Nat) (hk : k < l.length) : bgs 0 (sp (l.take (k + 1))) = if k = 0 ∨ l.getD (k - 1) false = true then bgs 0 (sp (l.take k)) ++ [k] else bgs 0 (sp (l.take k)) := by
  have e1 : l.take (k + 1) = l.take k ++ [l.getD k false] := by
    rw [List.take_add_one, List.getElem?_eq_getElem hk]; simp [List.getElem?_eq_getElem hk]
  have hl : (l.take k).length = k := by simp; omega
  have hs := sp_sum (l.take k)
  rw [hl] at hs
  have hone : sp [l.getD k false] = [1] := by cases l.getD k false <;> rfl
  rw [e1]
  by_cases c : k = 0 ∨ l.getD (k - 1) false = true
  · rw [if_pos c]
    have ho : op (l.take k) = false := by
      by_cases c0 : k = 0
      · subst c0; rfl
      · rw [op_last (l.take k) (by omega), hl]
        have : (l.take k).getD (k - 1) false = true := by
          rw [List.getD_eq_getElem?_getD, List.getElem?_take_of_lt (by omega), ← List.getD_eq_getElem?_getD]
          exact c.resolve_left c0
        rw [this]; rfl
    rw [sp_shut _ _ ho, hone, bgs_app, hs]
    simp [bgs]
  · rw [if_neg c]
    have c0 : k ≠ 0 := fun h => c (.inl h)
    have c1 : l.getD (k - 1) false = false := by
      cases h : l.getD (k - 1) false with
      | true => exact absurd (.inr h) c
      | false => rfl
    have ho : op (l.take k) = true := by
      rw [op_last (l.take k) (by omega), hl]
      have : (l.take k).getD (k - 1) false = false := by
        rw [List.getD_eq_getElem?_getD, List.getElem?_take_of_lt (by omega), ← List.getD_eq_getElem?_getD]
        exact c1
      rw [this]; rfl
    obtain ⟨U, z, hU⟩ := snoc_ex (sp (l.take k)) (by intro h; have := (sp_nil (l.take k)).1 (by rw [h]; rfl); omega)
    rw [sp_open (l.take k) _ U [] z 1 ho hU hone, hU, bgs_app, bgs_app]
    simp [bgs]

set_option maxRecDepth 100000 in
set_option maxHeartbeats 2000000 in
theorem starts_any (s : ByteArray) (w : World) (hs : s.size ≤ 1048576) : Calls Try.prog 14 #[.string s] w fun e w' => ∃ v, e = .returned v ∧ w'.ownsRow w.heap.size 3 1 v (sts (ln s)).length (ncs (sts (ln s))) ∧ Below w.heap.size w w' := by
  obtain ⟨i0, hi, hz0, hz1, hz2⟩ := info_parts info_int
  have hmade := World.ownsRow_made (base := w.heap.size) (e := 3) (size := 1) w #[] 0 (Nat.le_refl _) (by unfold maxLen; omega) (by simp)
  have hbm : Below w.heap.size w (w.alloc (.cells #[] 3)) := new_below _ _
  go_enter Try.func14, Try.ntmps14
  go_wp2_with fail
  go_loopw [3, 4] (fun vv iv wr => ∃ k : Nat, k ≤ s.size ∧ iv = .int .i64 (k : Nat) ∧ Box (wr.ownsRow w.heap.size 3 1 vv (bgs 0 (sp ((ln s).take k))).length (ncs (bgs 0 (sp ((ln s).take k))))) ∧ Box (Below w.heap.size w wr)) (fun _ iv _ => s.size - (intOf iv).toNat)
  case atStart => exact ⟨0, Nat.zero_le _, rfl, boxed hmade, boxed hbm⟩
  case round =>
    obtain ⟨k, hk, rfl, HOr, HBr⟩ := hrel
    clear hmade hbm
    have hbs : w.heap.size ≤ wr.heap.size := HBr.out.size
    have hll : (bgs 0 (sp ((ln s).take k))).length ≤ 1048576 := by rw [bgs_len]; have := sp_len ((ln s).take k); simp [ln_len] at this; omega
    by_cases hlt : k < s.size
    · have hst := bgs_step (ln s) k (by rw [ln_len]; exact hlt)
      by_cases hk0 : k = 0
      · subst hk0
        have HS : Box (bgs 0 (sp ((ln s).take (0 + 1))) = bgs 0 (sp ((ln s).take 0)) ++ [0]) := boxed (by rw [hst, if_pos (.inl rfl)])
        have hown := HOr.out
        clear hst HOr
        generalize bgs 0 (sp ((ln s).take 0)) = L at *
        go_wp2_with (first | (at_builtin; refine wpList_append_own _ rfl _ _ 34 rfl w.heap.size 3 i0 _ 1 8 Try.underlying34 hi hz0 hz1 hz2 rfl (by decide) _ _ _ rfl (hown.alloc _) ⟨wr.heap.size, 0, none⟩ 1 1 [.int .i64 (0 : Int)] rfl rfl ?c1 ?c2 ?c3 ?c4 ?c5 ?_))
        case c1 =>
          intro j u hj
          match j, hj with
          | 0, hj => simp at hj; subst hj; simp [Addr.add]
        case c2 => intro u hu; simp at hu; subst hu; rfl
        case c3 => unfold maxLen; omega
        case c4 => omega
        case c5 => simp; omega
        intro v' w6 hown6 hgrow6 _
        have HO6 := boxed hown6
        have HG6 := boxed (HBr.out.trans (grown_any hown hbs hgrow6))
        clear hown6 hgrow6 hown
        go_wp2_with fail
        go_roundw
        case rel => exact ⟨0 + 1, by omega, by go_num, boxed (by rw [HS.out, ncs_snoc, List.length_append]; exact HO6.out), HG6⟩
        case measure => simp [intOf]; omega
      · obtain ⟨j, rfl⟩ : ∃ j, k = j + 1 := ⟨k - 1, by omega⟩
        have hx := idx s j (by omega) (j : Int) rfl
        have z0 : (((j + 1 : Nat) : Int) == 0) = false := by rw [beq_eq_false_iff_ne]; omega
        rw [Nat.add_sub_cancel, ln_bt s j (by omega)] at hst
        by_cases h10 : bt s j = 10
        · have HS : Box (bgs 0 (sp ((ln s).take (j + 1 + 1))) = bgs 0 (sp ((ln s).take (j + 1))) ++ [j + 1]) := boxed (by rw [hst, if_pos (.inr (by rw [h10]; rfl))])
          have hown := HOr.out
          rw [h10] at hx
          clear hst HOr h10
          generalize bgs 0 (sp ((ln s).take (j + 1))) = L at *
          go_wp2_with (first | (at_builtin; refine wpList_append_own _ rfl _ _ 34 rfl w.heap.size 3 i0 _ 1 8 Try.underlying34 hi hz0 hz1 hz2 rfl (by decide) _ _ _ rfl (hown.alloc _) ⟨wr.heap.size, 0, none⟩ 1 1 [.int .i64 ((j : Int) + 1)] rfl rfl ?c1 ?c2 ?c3 ?c4 ?c5 ?_))
          case c1 =>
            intro j u hj
            match j, hj with
            | 0, hj => simp at hj; subst hj; simp [Addr.add]
          case c2 => intro u hu; simp at hu; subst hu; rfl
          case c3 => unfold maxLen; omega
          case c4 => omega
          case c5 => simp; omega
          intro v' w6 hown6 hgrow6 _
          have HO6 := boxed hown6
          have HG6 := boxed (HBr.out.trans (grown_any hown hbs hgrow6))
          clear hown6 hgrow6 hown
          go_wp2_with fail
          go_roundw
          case rel => exact ⟨j + 1 + 1, by omega, by go_num, boxed (by rw [HS.out, ncs_snoc, List.length_append]; exact HO6.out), HG6⟩
          case measure => simp [intOf]; omega
        · have hd : ((bt s j : Int) == 10) = false := by rw [beq_eq_false_iff_ne]; omega
          have HS : Box (bgs 0 (sp ((ln s).take (j + 1 + 1))) = bgs 0 (sp ((ln s).take (j + 1)))) := boxed (by rw [hst, if_neg (by rw [hd]; rintro (h | h) <;> cases h)])
          clear hst h10
          generalize bt s j = V at *
          generalize bgs 0 (sp ((ln s).take (j + 1))) = L at *
          go_wp2_with fail
          go_roundw
          case rel => exact ⟨j + 1 + 1, by omega, by go_num, boxed (by rw [HS.out]; exact HOr.out), HBr⟩
          case measure => simp [intOf]; omega
    · obtain rfl : k = s.size := by omega
      have HS : Box (sts (ln s) = bgs 0 (sp (ln s)) ++ [s.size]) := boxed (by unfold sts; rw [ln_len])
      have hown := HOr.out
      rw [List.take_of_length_le (by rw [ln_len]; exact Nat.le_refl _)] at hown hll
      clear HOr
      generalize hL : bgs 0 (sp (ln s)) = L at *
      go_wp2_with (first | (at_builtin; refine wpList_append_own _ rfl _ _ 34 rfl w.heap.size 3 i0 _ 1 8 Try.underlying34 hi hz0 hz1 hz2 rfl (by decide) _ _ _ rfl (hown.alloc _) ⟨wr.heap.size, 0, none⟩ 1 1 [.int .i64 (s.size : Nat)] rfl rfl ?c1 ?c2 ?c3 ?c4 ?c5 ?_))
      case c1 =>
        intro j u hj
        match j, hj with
        | 0, hj => simp at hj; subst hj; simp [Addr.add]
      case c2 => intro u hu; simp at hu; subst hu; rfl
      case c3 => unfold maxLen; omega
      case c4 => omega
      case c5 => simp; omega
      intro v' w6 hown6 hgrow6 _
      have HO6 := boxed hown6
      have HG6 := boxed (HBr.out.trans (grown_any hown hbs hgrow6))
      clear hown6 hgrow6 hown
      go_wp2
      go_ret
      exact ⟨v', rfl, by rw [HS.out, ncs_snoc, List.length_append]; exact HO6.out, HG6.out⟩

set_option maxRecDepth 100000 in
theorem rcount_any (s : ByteArray) (w : World) (hs : s.size ≤ 1048576) : Calls Try.prog 18 #[.string s] w fun e w' => e = .returned (.int .i64 ((sp (ln s)).length : Nat)) ∧ Below w.heap.size w w' := by
  have h1 := starts_any s w hs
  have hl := sp_len (ln s)
  rw [ln_len] at hl
  rw [sts_len] at h1
  generalize ncs (sts (ln s)) = Z at *
  generalize (sp (ln s)).length = n at *
  go_enter Try.func18, Try.ntmps18
  go_wp2_with fail
  refine h1.mono ?_
  rintro e w1 ⟨v, rfl, ho, hb1⟩
  obtain ⟨a, c, rfl⟩ := own_shape ho
  have HB1 := boxed hb1
  clear h1 ho hb1
  go_wp2
  go_ret
  exact ⟨rfl, HB1.out⟩

set_option maxRecDepth 100000 in
theorem rspan_any (s : ByteArray) (a b : Int) (w : World) : Calls Try.prog 24 #[.string s, .int .i64 a, .int .i64 b] w fun e w' => e = .returned (.int .i64 (if outb s.size a b = true then 30 else 0)) ∧ w' = w := by
  unfold outb
  by_cases h1 : a < 0
  · have e : (decide (a < 0) || decide ((s.size : Int) < b) || decide (b < a)) = true := by simp [h1]
    rw [if_pos e]
    clear e
    go_enter Try.func24, Try.ntmps24
    go_wp2
    go_ret
    exact ⟨rfl, rfl⟩
  · by_cases h2 : (s.size : Int) < b
    · have e : (decide (a < 0) || decide ((s.size : Int) < b) || decide (b < a)) = true := by simp [h2]
      rw [if_pos e]
      clear e
      go_enter Try.func24, Try.ntmps24
      go_wp2
      go_ret
      exact ⟨rfl, rfl⟩
    · by_cases h3 : b < a
      · have e : (decide (a < 0) || decide ((s.size : Int) < b) || decide (b < a)) = true := by simp [h3]
        rw [if_pos e]
        clear e
        go_enter Try.func24, Try.ntmps24
        go_wp2
        go_ret
        exact ⟨rfl, rfl⟩
      · have e : ¬ (decide (a < 0) || decide ((s.size : Int) < b) || decide (b < a)) = true := by simp; omega
        rw [if_neg e]
        clear e
        go_enter Try.func24, Try.ntmps24
        go_wp2
        go_ret
        exact ⟨rfl, rfl⟩
end Go.Proofs.Ytholifolkimkdaa
