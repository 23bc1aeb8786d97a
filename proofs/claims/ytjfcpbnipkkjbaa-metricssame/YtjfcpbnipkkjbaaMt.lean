/-
  As text Md's and Mi's on apart and Style, and one thing more: what they make may be written.
-/
import Derived.Test.YtjfcpbnipkkjbaaMs
import Derived.Deep.RegionWith
namespace Go.Proofs.Ytjfcpbnipkkjbaa
open Go.RowKit
set_option linter.unusedSimpArgs false
set_option linter.unusedVariables false

set_option maxRecDepth 100000 in
set_option maxHeartbeats 2000000 in
theorem apart_free (S : Nat → Prop) (s : Sty) (w : World) (hs : StyOk s) (hr : RgsAt S w s.ra s.rn s.R) :
    Calls Try.prog 33 #[s.val] w fun e w' => ∃ g : Sty, e = .returned g.val ∧ Like s g ∧ RgsAt (fun b => w.heap.size ≤ b) w' g.ra g.rn g.R ∧ (g.rn ≤ g.rc ∧ (g.ra = none → g.rn = 0 ∧ g.rc = 0)) ∧ (∀ b off, g.ra = some ⟨b, off, none⟩ → 0 < g.rn → ∀ i, w'.frozen? ⟨b, i, none⟩ = false) ∧ Below w.heap.size w w' := by
  obtain ⟨i0, hi, hz0, hz1, hz2x⟩ := info_parts info_range
  have hnq := fun w a n c => run_neq_slice_nil_any (P := Try.prog) w 33 45 a n c 0 0 Try.underlying33
  have hn := hs.rn
  have hnil := hs.nil
  have HRO : Box (∀ j, j < s.rn → RgOk (s.R j)) := boxed (fun j hj => (hr j hj).1)
  clear hs
  unfold Sty.val
  obtain ⟨h, sp, st, sh, hy, ot, ra, rn, rc, kp, R⟩ := s
  simp only at *
  cases ra with
  | none =>
    obtain ⟨rfl, rfl⟩ := hnil rfl
    clear hnil hr
    go_enter Try.func33, Try.ntmps33
    go_wp2
    go_returns
    exact ⟨⟨h, sp, st, sh, hy, ot, none, 0, 0, kp, R⟩, rfl, Like.refl _, fun j hj => by simp at hj, ⟨Nat.le_refl _, fun _ => ⟨rfl, rfl⟩⟩, fun b off _ h0 => by simp at h0, by go_grown⟩
  | some ad =>
    clear hnil
    by_cases h0 : rn = 0
    · subst h0
      clear hr
      go_enter Try.func33, Try.ntmps33
      go_wp2
      go_returns
      exact ⟨⟨h, sp, st, sh, hy, ot, some ⟨w.heap.size + 1 + 1, 0, none⟩, 0, 0, kp, R⟩, rfl, ⟨rfl, rfl, rfl, rfl, rfl, rfl, rfl, rfl, rfl⟩, fun j hj => by simp at hj, ⟨Nat.le_refl _, fun h => by cases h⟩, fun b off _ h0 => by simp at h0, by go_grown⟩
    · obtain ⟨-, b, off, e, -, -⟩ := hr 0 (by omega)
      injection e with e
      subst e
      have HC := boxed (rg_cells hr)
      have hbl : b < w.heap.size := by
        obtain ⟨-, b', off', e, -, c0, -⟩ := hr 0 (by omega)
        injection e with e
        injection e with e1 e2
        subst e1; subst e2
        exact World.block_lt_of_cell? w _ c0
      clear hr
      go_enter Try.func33, Try.ntmps33
      have HO : Box (∀ A Z, (((w.alloc A).alloc Z).alloc (.cells #[] 45)).ownsRow w.heap.size 45 3 (.slice (some ⟨w.heap.size + 1 + 1, 0, none⟩) 0 0) 0 []) := boxed (by
        intro A Z
        have := World.ownsRow_lit (base := w.heap.size) (e := 45) (size := 3) ((w.alloc A).alloc Z) #[] 0 (by simp; omega) (by unfold maxLen; omega) (by simp)
        simpa using this)
      go_wp2_with (at_builtin; refine wpList_append_own _ rfl _ _ 33 rfl w.heap.size 45 i0 (.agg #[.int .i64 0, .int .i64 0, .int .i64 0]) 3 24 Try.underlying33 hi hz0 hz1 hz2x rfl (by decide) _ _ _ rfl (HO.out _ _) ⟨b, off, none⟩ rn rc (rgv R rn) rfl ?c0 ?c1 ?c2 ?c3 ?c4 ?c5 ?_)
      case c0 => rw [rgv_len]
      case c1 =>
        intro j u hj
        refine hold (w := w) (by go_grown) ?_
        rw [Addr.add_lit]
        exact HC.out j u hj
      case c2 => exact rgv_one R rn
      case c3 => unfold maxLen; omega
      case c4 => omega
      case c5 => simp; omega
      intro v' w1 hown' hgrow _
      have hb1 : Below w.heap.size w w1 := Below.grown (by go_grown) hgrow (by simp; omega) (fun q hq => by simp [Value.ownBlock] at hq; omega)
      obtain ⟨g, cap, rfl, hcap, hge, hrg⟩ := rg_of_owns HRO.out hown' (by omega)
      have hB0 : w1.heap[w.heap.size]? = some (.cells #[.int .i64 h, .int .i64 sp, .int .i64 st, .int .i64 sh, .int .i64 hy, .int .i64 ot, .slice (some ⟨b, off, none⟩) rn rc, .bool kp] 35 (0, 0)) := by
        rw [hgrow.block _ (by simp; omega) (by simp [Value.ownBlock]; omega)]
        rw [Below.heap_alloc _ _ _ (by simp; omega), Below.heap_alloc _ _ _ (by simp)]
        exact heap_alloc_new w _
      have hB1 : w1.heap[w.heap.size + 1]? = some (.cells #[.int .i64 0, .int .i64 0, .int .i64 0, .int .i64 0, .int .i64 0, .int .i64 0, .slice none 0 0, .bool false] 35 (0, 0)) := by
        rw [hgrow.block _ (by simp) (by simp [Value.ownBlock])]
        rw [Below.heap_alloc _ _ _ (by simp)]
        have := heap_alloc_new (w.alloc (.cells #[.int .i64 h, .int .i64 sp, .int .i64 st, .int .i64 sh, .int .i64 hy, .int .i64 ot, .slice (some ⟨b, off, none⟩) rn rc, .bool kp] 35)) (.cells #[.int .i64 0, .int .i64 0, .int .i64 0, .int .i64 0, .int .i64 0, .int .i64 0, .slice none 0 0, .bool false] 35)
        rw [World.size_alloc] at this
        exact this
      have f0 := row_cell hB0
      have f1 := row_cell hB1
      have z0 := row_free hB0
      have z1 := row_free hB1
      have HG := boxed hrg
      have HB1 := boxed hb1
      have hne : w.heap.size + 1 ≠ w.heap.size := by omega
      have hgn0 : g ≠ w.heap.size ∧ g ≠ w.heap.size + 1 := by
        rcases hown'.2 with ⟨h, _⟩ | ⟨g', cap', cur, hv, _, hh, _⟩
        · cases h
        · injection hv with hv
          injection hv with hv
          injection hv with hv
          subst hv
          constructor
          · intro c; subst c; rw [hB0] at hh; injection hh with hh; injection hh with _ hh; revert hh; decide
          · intro c; subst c; rw [hB1] at hh; injection hh with hh; injection hh with _ hh; revert hh; decide
      have HGN := boxed hgn0
      have HFZ := boxed (fun i => hown'.frozenAt i)
      clear hown' hgrow hb1 hrg hB0 hB1 HO HC hgn0
      go_wp2
      refine bodyPost_ret (v := .agg #[.int .i64 h, .int .i64 sp, .int .i64 st, .int .i64 sh, .int .i64 hy, .int .i64 ot, .slice (some ⟨g, 0, none⟩) rn cap, .bool kp]) (by simp [results, Try.results33, go_sem, f1, hne]) rfl ?_
      refine ⟨⟨h, sp, st, sh, hy, ot, some ⟨g, 0, none⟩, rn, cap, kp, R⟩, rfl, ⟨rfl, rfl, rfl, rfl, rfl, rfl, rfl, rfl, rfl⟩, ?_, ⟨hcap, fun h => by cases h⟩, ?_, ?_⟩
      · refine HG.out.keep (fun b i u hs hc => ?_)
        subst hs
        refine ⟨hge, ?_⟩
        repeat (rw [World.cell?_setCell_far _ _ _ _ (by first | exact HGN.out.1.symm | exact HGN.out.2.symm)])
        exact hc
      · have HQ := boxed HFZ.out
        clear f0 f1 z0 z1 hnq hi hz0 hz1 hz2x
        intro b' off' e _ i
        have e' : (some ⟨g, 0, none⟩ : Option Addr) = some ⟨b', off', none⟩ := e
        have e1 : g = b' := congrArg Addr.block (Option.some.inj e')
        clear e e'
        subst e1
        simp only [World.frozen?_setCell]
        exact HQ.out i
      · have hb := HB1.out
        go_grown
set_option maxRecDepth 100000 in
theorem style_free {B : Nat} {w : World} {tb n : Nat} {G : Nat → Sty} (h : TabAt B w tb n G) (a : Int) :
    Calls Try.prog 20 #[.pointer (some ⟨tb, 0, none⟩), .int .i64 a] w fun e w' => ∃ g : Sty, e = .returned g.val ∧ Like (ofS G n a) g ∧ RgsAt (fun b => w.heap.size ≤ b) w' g.ra g.rn g.R ∧ (g.rn ≤ g.rc ∧ (g.ra = none → g.rn = 0 ∧ g.rc = 0)) ∧ (∀ b off, g.ra = some ⟨b, off, none⟩ → 0 < g.rn → ∀ i, w'.frozen? ⟨b, i, none⟩ = false) ∧ Below w.heap.size w w' := by
  have hl := fun w' (hb : Below w.heap.size w w') => look_any (h.below hb) a
  have hap := fun w' (hb : Below w.heap.size w w') => apart_free (fun b => B ≤ b) (ofS G n a) w' (h.of a).1 ((h.of a).2.below hb)
  simp only [Sty.val] at *
  clear h
  generalize ofS G n a = s at *
  go_enter Try.func20, Try.ntmps20
  go_wp2_with fail
  refine (hl _ (by go_grown)).mono ?_
  rintro e w1 ⟨rfl, hb1⟩
  have HB1 := boxed (below_step ((Below.refl w.heap.size w).alloc (Nat.le_refl _) _) (Nat.le_refl _) hb1)
  have hc : ∀ j, w1.cell? ⟨w.heap.size, j, none⟩ = (#[.int .i64 0, .int .i64 0, .int .i64 0, .int .i64 0, .int .i64 0, .int .i64 0, .slice none 0 0, .bool false] : Array Value)[j]? := by
    intro j
    rw [hb1.cell (p := ⟨w.heap.size, j, none⟩) (by simp)]
    exact cell_first _ _ _ _
  have hz : ∀ j, w1.frozen? ⟨w.heap.size, j, none⟩ = false := by
    intro j
    rw [hb1.frozen (p := ⟨w.heap.size, j, none⟩) (by simp)]
    exact row_free (heap_alloc_new _ _) j
  have hsz : w.heap.size < w1.heap.size := by have := hb1.size; simp at this; omega
  clear hb1 hl
  go_wp2_with fail
  refine (hap _ HB1.out).mono ?_
  rintro e w2 ⟨g, rfl, hg1, hg2, hg3, hg4, hb2⟩
  have HB2 := boxed (below_step HB1.out (Nat.le_refl _) hb2)
  have hc2 : ∀ j, w2.cell? ⟨w.heap.size, j, none⟩ = (#[.int .i64 0, .int .i64 0, .int .i64 0, .int .i64 0, .int .i64 0, .int .i64 0, .slice none 0 0, .bool false] : Array Value)[j]? := by
    intro j
    rw [hb2.cell (p := ⟨w.heap.size, j, none⟩) hsz]
    exact hc j
  have hz2 : ∀ j, w2.frozen? ⟨w.heap.size, j, none⟩ = false := by
    intro j
    rw [hb2.frozen (p := ⟨w.heap.size, j, none⟩) hsz]
    exact hz j
  have HG1 := boxed hg1
  have HG2 := boxed hg2
  have HG3 := boxed hg3
  have HG4 := boxed hg4
  clear hb2 hc hz hap hg1 hg2 hg3 hg4
  go_wp2
  refine bodyPost_ret (v := .agg #[.int .i64 g.h, .int .i64 g.sp, .int .i64 g.st, .int .i64 g.sh, .int .i64 g.hy, .int .i64 g.ot, .slice g.ra g.rn g.rc, .bool g.keep]) (by simp [results, Try.results20, go_sem, hc2]) rfl ⟨g, rfl, HG1.out, ?_, HG3.out, ?_, ?_⟩
  · refine HG2.out.keep (fun b i u hs hc => ⟨?_, ?_⟩)
    · have : w1.heap.size ≤ b := hs
      show w.heap.size ≤ b
      omega
    · have : w1.heap.size ≤ b := hs
      repeat (rw [World.cell?_setCell_far _ _ _ _ (by show w.heap.size ≠ b; omega)])
      exact hc
  · intro b off e h0 i
    simp only [World.frozen?_setCell]
    exact HG4.out b off e h0 i
  · have hb := HB2.out
    go_grown


/-- A list of one style. -/
theorem stys_one {w : World} {b : Nat} {s : Sty} (hs : StyOk s) (hr : RgsAt (fun _ => True) w s.ra s.rn s.R)
    (h : w.heap[b]? = some (.cells #[.int .i64 s.h, .int .i64 s.sp, .int .i64 s.st, .int .i64 s.sh, .int .i64 s.hy, .int .i64 s.ot, .slice s.ra s.rn s.rc, .bool s.keep] 35 (0, 0))) :
    StysAt (fun _ => True) w (some ⟨b, 0, none⟩) 1 (fun _ => s) := by
  intro i hi
  obtain rfl : i = 0 := by omega
  refine ⟨hs, hr, b, 0, rfl, trivial, ?_⟩
  exact ⟨row_cell h _, row_cell h _, row_cell h _, row_cell h _, row_cell h _, row_cell h _, row_cell h _, row_cell h _⟩
theorem Like.trans {a b c : Sty} (h : Like a b) (k : Like b c) : Like a c :=
  ⟨k.h.trans h.h, k.sp.trans h.sp, k.st.trans h.st, k.sh.trans h.sh, k.hy.trans h.hy, k.ot.trans h.ot, k.keep.trans h.keep, k.rn.trans h.rn, k.R.trans h.R⟩
theorem eqR_refl (R : Nat → Rg) (n : Nat) : eqR R R n = true := by
  induction n with
  | zero => rfl
  | succ n ih => show (eqR R R n && eqG (R n) (R n)) = true; rw [ih]; simp [eqG]
theorem eqS_like {s g : Sty} (h : Like s g) : eqS g s = true := by
  unfold eqS eqM
  rw [h.h, h.sp, h.st, h.sh, h.hy, h.ot, h.keep, h.rn, h.R, eqR_refl]
  simp
theorem same_one {s g : Sty} (h : Like s g) : sameS (fun _ => g) 1 (fun _ => s) 1 = true := by
  unfold sameS
  show (decide (1 = 1) && (true && eqS g s)) = true
  rw [eqS_like h]; rfl
theorem any_at {S : Nat → Prop} {w : World} {ra : Option Addr} {n : Nat} {R : Nat → Rg} (h : RgsAt S w ra n R) : RgsAt (fun _ => True) w ra n R := h.keep (fun b i u _ hc => ⟨trivial, hc⟩)
theorem cell_first2 (w : World) (cs : Array Value) (t : TypeId) (B : Obj) (j : Nat) : ((w.alloc (.cells cs t)).alloc B).cell? ⟨w.heap.size, j, none⟩ = cs[j]? := by
  rw [((Below.refl _ _).alloc (Nat.le_refl _) _ : Below (w.alloc (.cells cs t)).heap.size _ _).cell (p := ⟨w.heap.size, j, none⟩) (by simp)]
  exact cell_first _ _ _ _
/-- The eight cells of a style. -/
def sv (s : Sty) : Array Value := #[.int .i64 s.h, .int .i64 s.sp, .int .i64 s.st, .int .i64 s.sh, .int .i64 s.hy, .int .i64 s.ot, .slice s.ra s.rn s.rc, .bool s.keep]
theorem stys_one' {w : World} {b : Nat} {s : Sty} (hs : StyOk s) (hr : RgsAt (fun _ => True) w s.ra s.rn s.R) (h : ∀ j, w.cell? ⟨b, j, none⟩ = (sv s)[j]?) : StysAt (fun _ => True) w (some ⟨b, 0, none⟩) 1 (fun _ => s) := by
  intro i hi
  obtain rfl : i = 0 := by omega
  refine ⟨hs, hr, b, 0, rfl, trivial, ?_⟩
  exact ⟨h _, h _, h _, h _, h _, h _, h _, h _⟩
theorem same_two (w : World) (g s : Sty) (x y : Nat) (hg : StyOk g) (hs : StyOk s) (rg : RgsAt (fun _ => True) w g.ra g.rn g.R) (rs : RgsAt (fun _ => True) w s.ra s.rn s.R) (hl : Like s g)
    (hx : ∀ j, w.cell? ⟨x, j, none⟩ = (#[.int .i64 g.h, .int .i64 g.sp, .int .i64 g.st, .int .i64 g.sh, .int .i64 g.hy, .int .i64 g.ot, .slice g.ra g.rn g.rc, .bool g.keep] : Array Value)[j]?) (hy : ∀ j, w.cell? ⟨y, j, none⟩ = (#[.int .i64 s.h, .int .i64 s.sp, .int .i64 s.st, .int .i64 s.sh, .int .i64 s.hy, .int .i64 s.ot, .slice s.ra s.rn s.rc, .bool s.keep] : Array Value)[j]?) :
    Calls Try.prog 21 #[.slice (some ⟨x, 0, none⟩) 1 1, .slice (some ⟨y, 0, none⟩) 1 1] w fun e w' => e = .returned (.bool true) ∧ Below w.heap.size w w' := by
  have := refsame_any (fun _ => True) (some ⟨x, 0, none⟩) 1 1 (fun _ => g) (some ⟨y, 0, none⟩) 1 1 (fun _ => s) w (stys_one' hg rg hx) (stys_one' hs rs hy) (by unfold maxLen; omega)
  rw [same_one hl] at this
  exact this
end Go.Proofs.Ytjfcpbnipkkjbaa
