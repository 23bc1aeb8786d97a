/-
  What the program's underway does.
-/
import Derived.Test.YtdchpiihjjjpfabKc
namespace Go.Proofs.Ytdchpiihjjjpfab
open Go.RowKit
set_option linter.unusedSimpArgs false
set_option linter.unusedVariables false

/-- The styles of runs, byte by byte. -/
def exs : (Nat → Int) → (Nat → Int) → Nat → List Int
  | _, _, 0 => []
  | L, Y, m + 1 => List.replicate (L 0).toNat (Y 0) ++ exs (fun i => L (i + 1)) (fun i => Y (i + 1)) m
def bk2 (off cap : Nat) : Nat := if cap = 1 then off else off + 2
theorem sl_tail (b off m cap : Nat) (wx : World) : (Instr.slice 22 (.slice (some ⟨b, off, none⟩) (m + 1) cap) (some (.int .i64 1)) none none).run Try.prog wx = .ok (.slice (some ⟨b, bk2 off cap, none⟩) m (cap - 1)) wx := by
  have hc : Try.prog.cellsOf 25 = 2 := by kernel_rfl
  simp [Instr.slice, Instr.sliceBounds, Instr.sliceBound, asIntOf, run_underlying Try.underlying22, go_sem]
  unfold bk2
  rw [if_pos (by omega : (1 : Int) ≤ (m : Int) + 1)]
  simp
  split <;> rfl
theorem P2At.tail {S : Nat → Prop} {w : World} {b off m cap : Nat} {L Y : Nat → Int} (h : P2At S w (some ⟨b, off, none⟩) (m + 1) L Y) (hc : m + 1 ≤ cap) : P2At S w (some ⟨b, bk2 off cap, none⟩) m (fun i => L (i + 1)) (fun i => Y (i + 1)) := by
  intro i hi
  obtain ⟨h1, b', off', e, h2, c0, c1⟩ := h (i + 1) (by omega)
  injection e with e
  injection e with e1 e2 e3
  subst e1; subst e2
  have eo : bk2 off cap = off + 2 := if_neg (by omega)
  rw [eo]
  refine ⟨h1, b, off + 2, rfl, h2, ?_, ?_⟩
  · rw [show off + 2 + i * 2 = off + (i + 1) * 2 from by omega]; exact c0
  · rw [show off + 2 + i * 2 + 1 = off + (i + 1) * 2 + 1 from by omega]; exact c1

theorem keep2 {W : World} {q b off i j : Nat} {x : Value} (h : q ≠ b) (hc : W.cell? ⟨b, off, none⟩ = some x) (u v : Value) : ((W.setCell ⟨q, i, none⟩ u).setCell ⟨q, j, none⟩ v).cell? ⟨b, off, none⟩ = some x := by
  rw [World.cell?_setCell_far _ _ _ _ (show q ≠ b from h), World.cell?_setCell_far _ _ _ _ (show q ≠ b from h)]; exact hc
def pz (l : Int) : Nat := if 0 < l then 1 else 0
theorem pz_le (l : Int) : pz l ≤ 1 := by unfold pz; split <;> omega
/-- What holds ahead of a round of underway. -/
structure UwI (S : Nat → Prop) (w : World) (D : List Int) (m : Nat) (wr : World) (l y : Int) (ao : Option Addr) (k cap : Nat) (L Y : Nat → Int) : Prop where
  lf : wr.heap[w.heap.size]? = some (.cells #[.int .i64 l, .int .i64 y] 25 (0, 0))
  rs : wr.heap[w.heap.size + 1]? = some (.cells #[.int .i64 0, .int .i64 0] 25 (0, 0))
  at_ : P2At (fun b => S b ∧ b < w.heap.size) wr ao k L Y
  cap : k ≤ cap
  le : 2 * k + pz l ≤ m
  i64 : I64 l ∧ I64 y
  den : List.replicate l.toNat y ++ exs L Y k = D
  bel : Below w.heap.size w wr
theorem UwI.drew {S : Nat → Prop} {w : World} {D : List Int} {m : Nat} {wr : World} {l y : Int} {ao : Option Addr} {k cap : Nat} {L Y : Nat → Int} (h : UwI S w D m wr l y ao k cap L Y) : UwI S w D m wr.drew l y ao k cap L Y :=
  ⟨h.lf, h.rs, h.at_.below (Below.refl _ _).drew, h.cap, h.le, h.i64, h.den, h.bel.drew⟩
theorem UwI.step {S : Nat → Prop} {w : World} {D : List Int} {m : Nat} {wr : World} {l y : Int} {b off : Nat} {k cap : Nat} {L Y : Nat → Int} (h : UwI S w D m wr l y (some ⟨b, off, none⟩) (k + 1) cap L Y) (hl : l ≤ 0) :
    UwI S w D m ((wr.setCell ⟨w.heap.size, 0, none⟩ (.int .i64 (L 0))).setCell ⟨w.heap.size, 1, none⟩ (.int .i64 (Y 0))) (L 0) (Y 0) (some ⟨b, bk2 off cap, none⟩) k (cap - 1) (fun i => L (i + 1)) (fun i => Y (i + 1)) := by
  have hd := h.den
  have hc := h.cap
  have hle := h.le
  have hpz := pz_le (L 0)
  refine ⟨set1_heap (set0_heap h.lf), ?_, ?_, by omega, by omega, (h.at_ 0 (by omega)).1, ?_, ?_⟩
  · rw [heap_setCell_other _ _ _ _ (by simp), heap_setCell_other _ _ _ _ (by simp)]; exact h.rs
  · refine (h.at_.tail h.cap).keep (fun b i u hs hc => ⟨hs, ?_⟩)
    rw [World.cell?_setCell_far _ _ _ _ (by show w.heap.size ≠ b; have := hs.2; omega), World.cell?_setCell_far _ _ _ _ (by show w.heap.size ≠ b; have := hs.2; omega)]
    exact hc
  · rw [← hd, show l.toNat = 0 from by omega]; simp [exs]
  · exact (h.bel.setCell (p := ⟨w.heap.size, 0, none⟩) (Nat.le_refl _) _).setCell (p := ⟨w.heap.size, 1, none⟩) (Nat.le_refl _) _
def UwP (S : Nat → Prop) (w : World) (D : List Int) (m : Nat) (e : Ending) (w' : World) : Prop :=
  ∃ l' y' ao' m' cap' L' Y', e = .returned (.tuple #[.agg #[.int .i64 l', .int .i64 y'], .slice ao' m' cap']) ∧ P2At S w' ao' m' L' Y' ∧ m' ≤ cap' ∧ 2 * m' + pz l' ≤ m ∧ (I64 l' ∧ I64 y') ∧
      List.replicate l'.toNat y' ++ exs L' Y' m' = D ∧ (0 < l' ∨ (l' ≤ 0 ∧ m' = 0)) ∧ Below w.heap.size w w'
theorem UwI.done {S : Nat → Prop} {w : World} {D : List Int} {m : Nat} {wr : World} {l y : Int} {ao : Option Addr} {k cap : Nat} {L Y : Nat → Int} (h : UwI S w D m wr l y ao k cap L Y) (hd : 0 < l ∨ (l ≤ 0 ∧ k = 0)) :
    UwP S w D m (.returned (.tuple #[.agg #[.int .i64 l, .int .i64 y], .slice ao k cap])) ((wr.setCell ⟨w.heap.size + 1, 0, none⟩ (.int .i64 l)).setCell ⟨w.heap.size + 1, 1, none⟩ (.int .i64 y)) := by
  have hg := (put2_all (v0 := .int .i64 l) (v1 := .int .i64 y) h.rs).2.2
  exact ⟨l, y, ao, k, cap, L, Y, rfl, h.at_.keep (fun b i u hs hc => ⟨hs.1, hg.cell hc (fun e => by injection e with e; dsimp only at e; have := hs.2; omega)⟩), h.cap, h.le, h.i64, h.den, hd, h.bel.trans (grown_below hg (by omega) h.bel.size)⟩

set_option maxRecDepth 100000 in
set_option maxHeartbeats 2000000 in
theorem underway_any (S : Nat → Prop) (w : World) (l y : Int) (ao : Option Addr) (m cap : Nat) (L Y : Nat → Int) (h : P2At S w ao m L Y) (hc : m ≤ cap) (hl : I64 l ∧ I64 y) :
    Calls Try.prog 15 #[.agg #[.int .i64 l, .int .i64 y], .slice ao m cap] w fun e w' => UwP S w (List.replicate l.toNat y ++ exs L Y m) (2 * m + pz l) e w' := by
  obtain ⟨M, hM⟩ : ∃ M, 2 * m + pz l = M := ⟨_, rfl⟩
  rw [hM]
  obtain ⟨D, hD⟩ : ∃ D, List.replicate l.toNat y ++ exs L Y m = D := ⟨_, rfl⟩
  rw [hD]
  have H0 : Box (UwI S w D M ((w.alloc (.cells #[.int .i64 l, .int .i64 y] 25)).alloc (.cells #[.int .i64 0, .int .i64 0] 25)) l y ao m cap L Y) := boxed (by
    have hb : Below w.heap.size w ((w.alloc (.cells #[.int .i64 l, .int .i64 y] 25)).alloc (.cells #[.int .i64 0, .int .i64 0] 25)) := below_two w _ _
    refine ⟨?_, ?_, h.keep (fun b i u hs hc => ⟨⟨hs, World.block_lt_of_cell? w ⟨b, i, none⟩ hc⟩, hold hb hc⟩), hc, by rw [hM]; exact Nat.le_refl _, hl, hD, hb⟩
    · rw [Below.heap_alloc _ _ _ (by simp)]; exact heap_alloc_new w _
    · have := heap_alloc_new (w.alloc (.cells #[.int .i64 l, .int .i64 y] 25)) (.cells #[.int .i64 0, .int .i64 0] 25)
      rwa [World.size_alloc] at this)
  clear h hD
  go_enter Try.func15, Try.ntmps15
  go_wp2_with fail
  go_loopw [1] (fun va wr => ∃ (l' y' : Int) (ao' : Option Addr) (k' cap' : Nat) (L' Y' : Nat → Int), va = .slice ao' k' cap' ∧ Box (UwI S w D M wr l' y' ao' k' cap' L' Y')) (fun va _ => match va with | .slice _ k _ => k | _ => 0)
  case atStart => exact ⟨l, y, ao, m, cap, L, Y, rfl, H0⟩
  case round =>
    obtain ⟨l', y', ao', k', cap', L', Y', rfl, HI⟩ := hrel
    obtain ⟨f0, f1, f2, f3⟩ := box_facts HI.out.lf
    obtain ⟨r0, r1, r2, r3⟩ := box_facts HI.out.rs
    by_cases c1 : 0 < l'
    · have z1 : decide (l' ≤ 0) = false := decide_eq_false (by omega)
      have HE := boxed (HI.out.done (.inl c1))
      have HP := put2_all (v0 := .int .i64 l') (v1 := .int .i64 y') HI.out.rs
      go_wp2_with fail
      refine bodyPost_ret (v := .tuple #[.agg #[.int .i64 l', .int .i64 y'], .slice ao' k' cap']) (by simp [results, Try.results15, go_sem, HP.1, HP.2.1]) rfl HE.out
    · have z1 : decide (l' ≤ 0) = true := decide_eq_true (by omega)
      by_cases c2 : k' = 0
      · subst c2
        have HE := boxed (HI.out.done (.inr ⟨by omega, rfl⟩))
        have HP := put2_all (v0 := .int .i64 l') (v1 := .int .i64 y') HI.out.rs
        go_wp2_with fail
        refine bodyPost_ret (v := .tuple #[.agg #[.int .i64 l', .int .i64 y'], .slice ao' 0 cap']) (by simp [results, Try.results15, go_sem, HP.1, HP.2.1]) rfl HE.out
      · obtain ⟨k, rfl⟩ : ∃ k, k' = k + 1 := ⟨k' - 1, by omega⟩
        obtain ⟨b, off, rfl, -⟩ := HI.out.at_.form (by omega)
        obtain ⟨e0, e1⟩ := HI.out.at_.get 0 (by omega)
        rw [Nat.zero_mul, Nat.add_zero] at e0 e1
        have hst := sl_tail b off k cap'
        have HS := boxed (HI.out.step (by omega)).drew
        have z2 : decide ((0 : Int) < ((k + 1 : Nat) : Int)) = true := decide_eq_true (by omega)
        go_wp2_with fail
        have hbw : w.heap.size ≠ b := by
          obtain ⟨-, b', off', e, hs, -⟩ := HI.out.at_ 0 (by omega)
          have : b = b' := congrArg Addr.block (Option.some.inj e)
          have := hs.2
          omega
        have HX : Box (wr.drew.cell? ⟨b, off, none⟩ = some (.int .i64 (L' 0)) ∧ wr.drew.cell? ⟨b, off + 1, none⟩ = some (.int .i64 (Y' 0))) := boxed ⟨e0, e1⟩
        have HXS : Box (∀ u v, ((wr.setCell ⟨w.heap.size, 0, none⟩ u).setCell ⟨w.heap.size, 1, none⟩ v).drew.cell? ⟨b, off, none⟩ = some (.int .i64 (L' 0)) ∧ ((wr.setCell ⟨w.heap.size, 0, none⟩ u).setCell ⟨w.heap.size, 1, none⟩ v).drew.cell? ⟨b, off + 1, none⟩ = some (.int .i64 (Y' 0))) := boxed (fun u v => ⟨keep2 hbw e0 u v, keep2 hbw e1 u v⟩)
        have g0 : wr.drew.cell? _ = _ := f0
        have g1 : wr.drew.cell? _ = _ := f1
        have g2 : wr.drew.frozen? _ = _ := f2
        have g3 : wr.drew.frozen? _ = _ := f3
        clear e0 e1
        generalize L' 0 = l0 at *
        generalize Y' 0 = y0 at *
        go_region_held3 (fun W' => W'.cell? ⟨b, off, none⟩ = some (.int .i64 l0) ∧ W'.cell? ⟨b, off + 1, none⟩ = some (.int .i64 y0))
          (first | with_reducible exact HX.out | with_reducible exact HXS.out _ _)
          (fail)
        go_wp2_with fail
        go_roundw
        case rel => exact ⟨_, _, _, _, _, _, _, rfl, HS⟩
        case measure => simp
end Go.Proofs.Ytdchpiihjjjpfab
