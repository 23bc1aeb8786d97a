/-
  What the document's front answers.
-/
import Derived.Test.YtmnnmnggakbipaaQu
namespace Go.Proofs.Ytmnnmnggakbipaa
open Go.RowKit
set_option linter.unusedSimpArgs false
set_option linter.unusedVariables false

/-- Those of the first n that don't stand at a place. -/
def wo (es : List Re) (i : Int) : Nat → List Re
  | 0 => []
  | n + 1 => wo es i n ++ (if (n : Int) = i then [] else (es[n]?).toList)
theorem wo_none (es : List Re) (n : Nat) : wo es (-1) n = es.take n := by
  induction n with
  | zero => rfl
  | succ n ih => rw [wo, ih, if_neg (by omega), List.take_add_one]
theorem wo_at (es : List Re) (i n : Nat) (hn : n ≤ es.length) : wo es (i : Nat) n = (es.take n).eraseIdx i := by
  induction n with
  | zero => simp [wo]
  | succ n ih =>
    have hl : (es.take n).length = n := by simp; omega
    rw [wo, ih (by omega), List.take_add_one]
    obtain ⟨x, hx⟩ : ∃ x, es[n]? = some x := ⟨es[n], List.getElem?_eq_getElem (by omega)⟩
    rw [hx]
    simp only [Option.toList_some]
    by_cases c : i < n
    · rw [if_neg (by omega), List.eraseIdx_append_of_lt_length (by omega)]
    · rw [List.eraseIdx_append_of_length_le (by omega), hl]
      by_cases d : n = i
      · subst d; simp; omega
      · rw [if_neg (by omega)]
        obtain ⟨m, hm⟩ : ∃ m, i - n = m + 1 := ⟨i - n - 1, by omega⟩
        rw [hm, List.eraseIdx_of_length_le (by omega)]
        simp
theorem wo_len (es : List Re) (i : Int) (n : Nat) : (wo es i n).length ≤ n := by
  induction n with
  | zero => simp [wo]
  | succ n ih =>
    rw [wo, List.length_append]
    split
    · simp; omega
    · cases es[n]? <;> simp <;> omega
/-- What front answers. -/
def wou (es : List Re) (i : Int) : List Re := wo es i es.length
theorem wou_none (es : List Re) : wou es (-1) = es := by unfold wou; rw [wo_none, List.take_length]
theorem wou_at (es : List Re) (i : Nat) : wou es (i : Nat) = es.eraseIdx i := by unfold wou; rw [wo_at _ _ _ (Nat.le_refl _), List.take_length]

/-- The new row. -/
def FrP (w : World) (es : List Re) (i : Int) (e : Re) (r : Ending) (w' : World) : Prop := ∃ ao m cap, r = .returned (.slice ao m cap) ∧ m = (e :: wou es i).length ∧ w'.ownsRow w.heap.size 44 12 (.slice ao m cap) m (ecs (e :: wou es i)) ∧ Below w.heap.size w w'
set_option maxRecDepth 100000 in
set_option maxHeartbeats 4000000 in
theorem front_any (S : Nat → Prop) (w : World) (lo : Option Addr) (lc : Nat) (es : List Re) (i : Int) (e : Re) (h : RsAt S w lo es) (hl : es.length ≤ 100000) :
    Calls Try.prog 47 #[.slice lo es.length lc, .int .i64 i, e.val] w fun r w' => FrP w es i e r w' := by
  obtain ⟨i0, hi, hz0, hz1, hz2⟩ := info_parts info_rent
  unfold Re.val
  obtain ⟨W, hW⟩ : ∃ W, (w.alloc (.cells #[.string e.k.tx, .slice e.k.ra e.k.rn e.k.rc, .int .i64 e.k.ta, .int .i64 e.k.wd, .int .i64 e.k.s.t, .int .i64 e.k.s.l, .int .i64 e.k.s.a, .int .i64 e.k.s.d, .int .i64 e.k.s.z, .int .i64 e.k.s.o, .int .i64 e.k.s.i, .int .i64 e.v] 44)).alloc (.cells #[.string e.k.tx, .slice e.k.ra e.k.rn e.k.rc, .int .i64 e.k.ta, .int .i64 e.k.wd, .int .i64 e.k.s.t, .int .i64 e.k.s.l, .int .i64 e.k.s.a, .int .i64 e.k.s.d, .int .i64 e.k.s.z, .int .i64 e.k.s.o, .int .i64 e.k.s.i, .int .i64 e.v] 44) = W := ⟨_, rfl⟩
  have HQ := laid2 w (.cells #[.string e.k.tx, .slice e.k.ra e.k.rn e.k.rc, .int .i64 e.k.ta, .int .i64 e.k.wd, .int .i64 e.k.s.t, .int .i64 e.k.s.l, .int .i64 e.k.s.a, .int .i64 e.k.s.d, .int .i64 e.k.s.z, .int .i64 e.k.s.o, .int .i64 e.k.s.i, .int .i64 e.v] 44) (.cells #[.string e.k.tx, .slice e.k.ra e.k.rn e.k.rc, .int .i64 e.k.ta, .int .i64 e.k.wd, .int .i64 e.k.s.t, .int .i64 e.k.s.l, .int .i64 e.k.s.a, .int .i64 e.k.s.d, .int .i64 e.k.s.z, .int .i64 e.k.s.o, .int .i64 e.k.s.i, .int .i64 e.v] 44)
  rw [hW] at HQ
  obtain ⟨f0, f1, hB, hz⟩ := HQ
  have HB := boxed hB
  have HO : Box (W.ownsRow w.heap.size 44 12 (.slice (some ⟨w.heap.size + 1, 0, none⟩) 1 1) 1 (ecs [e])) := boxed ⟨by simp [ecs, Re.cells], .inr ⟨w.heap.size + 1, 1, _, rfl, by omega, f1, Nat.le_refl _, by unfold maxLen; omega, by simp, by simp [ecs, Re.cells]⟩⟩
  have HR := boxed h
  obtain ⟨n, hn⟩ : ∃ n, es.length = n := ⟨_, rfl⟩
  rw [hn] at hl ⊢
  have HNn := boxed hn
  have HWn : Box (wou es i = wo es i n) := boxed (by unfold wou; rw [hn])
  clear h f0 f1 hB hz hn
  go_enter Try.func47, Try.ntmps47
  go_wp2_with fail
  go_loopw [7, 8] (fun vo vi wr => ∃ (j : Nat) (ao : Option Addr) (cp m : Nat), j ≤ n ∧ vi = .int .i64 (j : Nat) ∧ vo = .slice ao m cp ∧ Box (m = (e :: wo es i j).length ∧ wr.ownsRow w.heap.size 44 12 (.slice ao m cp) m (ecs (e :: wo es i j))) ∧ Box (Below w.heap.size w wr)) (fun _ vi _ => n - (intOf vi).toNat)
  case atStart => exact ⟨0, _, _, 1, Nat.zero_le _, rfl, rfl, boxed ⟨rfl, HO.out⟩, HB⟩
  case round =>
    obtain ⟨j, ao, cp, m, hjn, rfl, rfl, HO1, HB1⟩ := hrel
    have hm : m ≤ 100001 := by have := HO1.out.1; have := wo_len es i j; simp at *; omega
    by_cases hlt : j < n
    · have hil : j < es.length := by rw [HNn.out]; exact hlt
      have hei : es[j]? = some es[j] := List.getElem?_eq_getElem hil
      generalize es[j] = x at hei
      by_cases ci : (j : Int) = i
      · have ti : ((j : Int) != i) = false := by simpa using ci
        have HO2 : Box (m = (e :: wo es i (j + 1)).length ∧ wr.ownsRow w.heap.size 44 12 (.slice ao m cp) m (ecs (e :: wo es i (j + 1)))) := boxed (by rw [wo, if_pos ci, List.append_nil]; exact HO1.out)
        clear ci HO1 hei hil
        go_wp2_with fail
        go_roundw
        case rel => exact ⟨j + 1, ao, cp, m, by omega, by go_num, rfl, HO2, HB1⟩
        case measure => simp [intOf]; omega
      · have ti : ((j : Int) != i) = true := by simpa using ci
        obtain ⟨lb, loff, hlo, -⟩ := HR.out.form (by omega)
        subst hlo
        have hRw := HR.out.below HB1.out
        obtain ⟨y0, y1, y2, y3, y4, y5, y6, y7, y8, y9, y10, y11⟩ := hRw.get hei
        have hown := HO1.out.2
        have hsz := HB1.out.size
        have hlt2 : (j : Int) < (n : Int) := by omega
        have HW2 : Box (wo es i (j + 1) = wo es i j ++ [x]) := boxed (by rw [wo, if_neg ci, hei]; rfl)
        clear ci hei hil hRw
        go_wp2_with (at_builtin; refine wpList_append_own _ rfl _ _ 25 rfl w.heap.size 44 i0 _ 12 120 Try.underlying25 hi hz0 hz1 hz2 rfl (by decide) _ _ _ rfl (hown.alloc _) ⟨wr.heap.size, 0, none⟩ 1 1 x.cells rfl rfl ?qc1 ?qc2 ?qc3 ?qc4 ?qc5 ?_)
        case qc1 =>
          intro q u hq
          rw [Addr.add_lit, Nat.zero_add, cell_new wr _ _ _ q rfl, ← hq]
          simp [Re.cells]
        case qc2 => exact ecell_one _
        case qc3 => unfold maxLen; omega
        case qc4 => omega
        case qc5 => simp; omega
        intro v' w6 hown6 hgrow6 _
        have hB6 : Below w.heap.size w w6 := (HB1.out.alloc hsz _).grown hgrow6 (by simp; omega) (fun r e => (hown.lt r e).1)
        obtain ⟨ao6, cp6, rfl⟩ := own_shape hown6
        have HO2 : Box (m + 1 = (e :: wo es i (j + 1)).length ∧ w6.ownsRow w.heap.size 44 12 (.slice ao6 (m + 1) cp6) (m + 1) (ecs (e :: wo es i (j + 1)))) := boxed (by
          rw [HW2.out]
          refine ⟨by rw [HO1.out.1]; simp, ?_⟩
          have e1 : ecs (e :: (wo es i j ++ [x])) = ecs (e :: wo es i j) ++ x.cells := by
            rw [← List.cons_append, ecs_app]
            simp [ecs]
          rw [e1]
          exact hown6)
        have HB6 := boxed hB6
        clear hown6 hgrow6 hown hB6 y0 y1 y2 y3 y4 y5 y6 y7 y8 y9 y10 y11
        go_wp2_with fail
        go_roundw
        case rel => exact ⟨j + 1, ao6, cp6, m + 1, by omega, by go_num, rfl, HO2, HB6⟩
        case measure => simp [intOf]; omega
    · obtain rfl : n = j := by omega
      have HF : Box (m = (e :: wou es i).length ∧ wr.ownsRow w.heap.size 44 12 (.slice ao m cp) m (ecs (e :: wou es i))) := boxed (by rw [HWn.out]; exact HO1.out)
      clear HO1 HO
      go_wp2_with fail
      go_ret
      obtain ⟨h1, h2⟩ := HF.out
      exact ⟨ao, m, cp, rfl, h1, h2, HB1.out⟩
end Go.Proofs.Ytmnnmnggakbipaa
