/-
  What the program's apart answers: a style alike, whose ranges lie in new memory.
-/
import Derived.Test.YtcdcpmcjlchfgaaMb
import Derived.Laws.AppendOwnNone
import Derived.Deep.RegionHeld3
namespace Go.Proofs.Ytcdcpmcjlchfgaa
open Go.RowKit
set_option linter.unusedSimpArgs false
set_option linter.unusedVariables false

theorem info_range : (Try.prog.info? 110).map (fun i => (i.zero, i.size, i.bytes)) = some (some (.agg #[.int .i64 0, .int .i64 0, .int .i64 0]), 3, 24) := by kernel_rfl

/-- The cells of ranges. -/
def rgv (R : Nat → Rg) (n : Nat) : List Value := (List.range (n * 3)).map fun j => .int .i64 (if j % 3 = 0 then (R (j / 3)).lo else if j % 3 = 1 then (R (j / 3)).hi else (R (j / 3)).wd)
theorem rgv_len (R : Nat → Rg) (n : Nat) : (rgv R n).length = n * 3 := by simp [rgv]
theorem rgv_get (R : Nat → Rg) (n j : Nat) (h : j < n * 3) : (rgv R n)[j]? = some (.int .i64 (if j % 3 = 0 then (R (j / 3)).lo else if j % 3 = 1 then (R (j / 3)).hi else (R (j / 3)).wd)) := by simp [rgv, h]
theorem rgv_one (R : Nat → Rg) (n : Nat) : ∀ u ∈ rgv R n, u.oneCell' = true := by
  intro u hu
  simp only [rgv, List.mem_map] at hu
  obtain ⟨j, _, rfl⟩ := hu
  rfl
/-- Two styles alike. -/
structure Like (s g : Sty) : Prop where
  h : g.h = s.h
  sp : g.sp = s.sp
  st : g.st = s.st
  sh : g.sh = s.sh
  hy : g.hy = s.hy
  ot : g.ot = s.ot
  keep : g.keep = s.keep
  rn : g.rn = s.rn
  R : g.R = s.R
theorem Like.refl (s : Sty) : Like s s := ⟨rfl, rfl, rfl, rfl, rfl, rfl, rfl, rfl, rfl⟩

theorem rg_of_owns {w : World} {base n : Nat} {v : Value} {R : Nat → Rg} (hR : ∀ j, j < n → RgOk (R j)) (h : w.ownsRow base 110 3 v n (rgv R n)) (h0 : 0 < n) :
    ∃ g cap, v = .slice (some ⟨g, 0, none⟩) n cap ∧ n ≤ cap ∧ base ≤ g ∧ RgsAt (fun b => b = g) w (some ⟨g, 0, none⟩) n R := by
  rcases h.2 with ⟨rfl, h1⟩ | ⟨g, cap, cur, rfl, hg, hh, hle, hm, hc, ht⟩
  · omega
  · refine ⟨g, cap, rfl, hle, hg, fun j hj => ⟨hR j hj, g, 0, rfl, rfl, ?_, ?_, ?_⟩⟩
    · have := h.cellAt (j * 3) (by omega)
      rw [Nat.zero_add, this, rgv_get R n _ (by omega)]
      simp
    · have := h.cellAt (j * 3 + 1) (by omega)
      rw [Nat.zero_add, this, rgv_get R n _ (by omega)]
      have e1 : (j * 3 + 1) % 3 = 1 := by omega
      have e2 : (j * 3 + 1) / 3 = j := by omega
      simp [e1, e2]
    · have := h.cellAt (j * 3 + 2) (by omega)
      rw [Nat.zero_add, this, rgv_get R n _ (by omega)]
      have e1 : (j * 3 + 2) % 3 = 2 := by omega
      have e2 : (j * 3 + 2) / 3 = j := by omega
      simp [e1, e2]

theorem rg_cells {S : Nat → Prop} {w : World} {b off : Nat} {n : Nat} {R : Nat → Rg} (h : RgsAt S w (some ⟨b, off, none⟩) n R) (j : Nat) (u : Value) (hj : (rgv R n)[j]? = some u) : w.cell? ⟨b, off + j, none⟩ = some u := by
  have hjl : j < n * 3 := by
    by_cases c : j < n * 3
    · exact c
    · rw [List.getElem?_eq_none (by rw [rgv_len]; omega)] at hj; cases hj
  rw [rgv_get R n j hjl] at hj
  injection hj with hj
  subst hj
  obtain ⟨-, b', off', e, -, c0, c1, c2⟩ := h (j / 3) (by omega)
  injection e with e
  injection e with e1 e2
  subst e1; subst e2
  rcases (show j % 3 = 0 ∨ j % 3 = 1 ∨ j % 3 = 2 by omega) with c | c | c
  · rw [show off + j = off + j / 3 * 3 by omega, c0]; simp [c]
  · rw [show off + j = off + j / 3 * 3 + 1 by omega, c1]; simp [c]
  · rw [show off + j = off + j / 3 * 3 + 2 by omega, c2]; simp [c]

theorem row_cell {w : World} {b : Nat} {cs : Array Value} {t : TypeId} (h : w.heap[b]? = some (.cells cs t (0, 0))) (i : Nat) : w.cell? ⟨b, i, none⟩ = cs[i]? := by
  rw [cell_of_row _ _ _ _ _ _ h]
theorem row_free {w : World} {b : Nat} {cs : Array Value} {t : TypeId} (h : w.heap[b]? = some (.cells cs t (0, 0))) (i : Nat) : w.frozen? ⟨b, i, none⟩ = false := by
  simp [World.frozen?, h]

set_option maxRecDepth 100000 in
set_option maxHeartbeats 2000000 in
theorem apart_any (S : Nat → Prop) (s : Sty) (w : World) (hs : StyOk s) (hr : RgsAt S w s.ra s.rn s.R) :
    Calls Try.prog 54 #[s.val] w fun e w' => ∃ g : Sty, e = .returned g.val ∧ Like s g ∧ RgsAt (fun b => w.heap.size ≤ b) w' g.ra g.rn g.R ∧ (g.rn ≤ g.rc ∧ (g.ra = none → g.rn = 0 ∧ g.rc = 0)) ∧ Below w.heap.size w w' := by
  obtain ⟨i0, hi, hz0, hz1, hz2x⟩ := info_parts info_range
  have hnq := fun w a n c => run_neq_slice_nil_any (P := Try.prog) w 71 110 a n c 0 0 Try.underlying71
  have hn := hs.rn
  have hnil := hs.nil
  have HRO : Box (∀ j, j < s.rn → RgOk (s.R j)) := boxed (fun j hj => (hr j hj).1)
  clear hs
  unfold Sty.val
  obtain ⟨h, sp, st, sh, hy, ot, ra, rn, rc, kp, R⟩ := s
  simp only at *
  cases ra with
  | none =>
    obtain ⟨rfl, rfl⟩ := hnil rfl
    clear hnil hr
    go_enter Try.func54, Try.ntmps54
    go_wp2
    go_returns
    exact ⟨⟨h, sp, st, sh, hy, ot, none, 0, 0, kp, R⟩, rfl, Like.refl _, fun j hj => by simp at hj, ⟨Nat.le_refl _, fun _ => ⟨rfl, rfl⟩⟩, by go_grown⟩
  | some ad =>
    clear hnil
    by_cases h0 : rn = 0
    · subst h0
      clear hr
      go_enter Try.func54, Try.ntmps54
      go_wp2
      go_returns
      exact ⟨⟨h, sp, st, sh, hy, ot, some ⟨w.heap.size + 1 + 1, 0, none⟩, 0, 0, kp, R⟩, rfl, ⟨rfl, rfl, rfl, rfl, rfl, rfl, rfl, rfl, rfl⟩, fun j hj => by simp at hj, ⟨Nat.le_refl _, fun h => by cases h⟩, by go_grown⟩
    · obtain ⟨-, b, off, e, -, -⟩ := hr 0 (by omega)
      injection e with e
      subst e
      have HC := boxed (rg_cells hr)
      have hbl : b < w.heap.size := by
        obtain ⟨-, b', off', e, -, c0, -⟩ := hr 0 (by omega)
        injection e with e
        injection e with e1 e2
        subst e1; subst e2
        exact World.block_lt_of_cell? w _ c0
      clear hr
      go_enter Try.func54, Try.ntmps54
      have HO : Box (∀ A Z, (((w.alloc A).alloc Z).alloc (.cells #[] 110)).ownsRow w.heap.size 110 3 (.slice (some ⟨w.heap.size + 1 + 1, 0, none⟩) 0 0) 0 []) := boxed (by
        intro A Z
        have := World.ownsRow_lit (base := w.heap.size) (e := 110) (size := 3) ((w.alloc A).alloc Z) #[] 0 (by simp; omega) (by unfold maxLen; omega) (by simp)
        simpa using this)
      go_wp2_with (at_builtin; refine wpList_append_own _ rfl _ _ 71 rfl w.heap.size 110 i0 (.agg #[.int .i64 0, .int .i64 0, .int .i64 0]) 3 24 Try.underlying71 hi hz0 hz1 hz2x rfl (by decide) _ _ _ rfl (HO.out _ _) ⟨b, off, none⟩ rn rc (rgv R rn) rfl ?c0 ?c1 ?c2 ?c3 ?c4 ?c5 ?_)
      case c0 => rw [rgv_len]
      case c1 =>
        intro j u hj
        refine hold (w := w) (by go_grown) ?_
        rw [Addr.add_lit]
        exact HC.out j u hj
      case c2 => exact rgv_one R rn
      case c3 => unfold maxLen; omega
      case c4 => omega
      case c5 => simp; omega
      intro v' w1 hown' hgrow _
      have hb1 : Below w.heap.size w w1 := Below.grown (by go_grown) hgrow (by simp; omega) (fun q hq => by simp [Value.ownBlock] at hq; omega)
      obtain ⟨g, cap, rfl, hcap, hge, hrg⟩ := rg_of_owns HRO.out hown' (by omega)
      have hB0 : w1.heap[w.heap.size]? = some (.cells #[.int .i64 h, .int .i64 sp, .int .i64 st, .int .i64 sh, .int .i64 hy, .int .i64 ot, .slice (some ⟨b, off, none⟩) rn rc, .bool kp] 73 (0, 0)) := by
        rw [hgrow.block _ (by simp; omega) (by simp [Value.ownBlock]; omega)]
        rw [Below.heap_alloc _ _ _ (by simp; omega), Below.heap_alloc _ _ _ (by simp)]
        exact heap_alloc_new w _
      have hB1 : w1.heap[w.heap.size + 1]? = some (.cells #[.int .i64 0, .int .i64 0, .int .i64 0, .int .i64 0, .int .i64 0, .int .i64 0, .slice none 0 0, .bool false] 73 (0, 0)) := by
        rw [hgrow.block _ (by simp) (by simp [Value.ownBlock])]
        rw [Below.heap_alloc _ _ _ (by simp)]
        have := heap_alloc_new (w.alloc (.cells #[.int .i64 h, .int .i64 sp, .int .i64 st, .int .i64 sh, .int .i64 hy, .int .i64 ot, .slice (some ⟨b, off, none⟩) rn rc, .bool kp] 73)) (.cells #[.int .i64 0, .int .i64 0, .int .i64 0, .int .i64 0, .int .i64 0, .int .i64 0, .slice none 0 0, .bool false] 73)
        rw [World.size_alloc] at this
        exact this
      have f0 := row_cell hB0
      have f1 := row_cell hB1
      have z0 := row_free hB0
      have z1 := row_free hB1
      have HG := boxed hrg
      have HB1 := boxed hb1
      have hne : w.heap.size + 1 ≠ w.heap.size := by omega
      have hgn0 : g ≠ w.heap.size ∧ g ≠ w.heap.size + 1 := by
        rcases hown'.2 with ⟨h, _⟩ | ⟨g', cap', cur, hv, _, hh, _⟩
        · cases h
        · injection hv with hv
          injection hv with hv
          injection hv with hv
          subst hv
          constructor
          · intro c; subst c; rw [hB0] at hh; injection hh with hh; injection hh with _ hh; revert hh; decide
          · intro c; subst c; rw [hB1] at hh; injection hh with hh; injection hh with _ hh; revert hh; decide
      have HGN := boxed hgn0
      clear hown' hgrow hb1 hrg hB0 hB1 HO HC hgn0
      go_wp2
      refine bodyPost_ret (v := .agg #[.int .i64 h, .int .i64 sp, .int .i64 st, .int .i64 sh, .int .i64 hy, .int .i64 ot, .slice (some ⟨g, 0, none⟩) rn cap, .bool kp]) (by simp [results, Try.results54, go_sem, f1, hne]) rfl ?_
      refine ⟨⟨h, sp, st, sh, hy, ot, some ⟨g, 0, none⟩, rn, cap, kp, R⟩, rfl, ⟨rfl, rfl, rfl, rfl, rfl, rfl, rfl, rfl, rfl⟩, ?_, ⟨hcap, fun h => by cases h⟩, ?_⟩
      · refine HG.out.keep (fun b i u hs hc => ?_)
        subst hs
        refine ⟨hge, ?_⟩
        repeat (rw [World.cell?_setCell_far _ _ _ _ (by first | exact HGN.out.1.symm | exact HGN.out.2.symm)])
        exact hc
      · have hb := HB1.out
        go_grown
end Go.Proofs.Ytcdcpmcjlchfgaa
