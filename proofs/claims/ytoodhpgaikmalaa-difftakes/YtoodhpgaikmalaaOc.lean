/-
  Runs, out of the texts of stage 5: what this program has of them (Oc).
-/
import Derived.Test.YtoodhpgaikmalaaOb
import Derived.Deep.Slices
import Derived.SizedLaws
import Derived.OpenShut
namespace Go.Proofs.Ytoodhpgaikmalaa
open Go.RowKit Go.Deep
set_option linter.unusedSimpArgs false
set_option linter.unusedVariables false
def exs : (Nat → Int) → (Nat → Int) → Nat → List Int
  | _, _, 0 => []
  | L, Y, m + 1 => List.replicate (L 0).toNat (Y 0) ++ exs (fun i => L (i + 1)) (fun i => Y (i + 1)) m
def bk2 (off cap : Nat) : Nat := if cap = 1 then off else off + 2
theorem sl_tail (b off m cap : Nat) (wx : World) : (Instr.slice 35 (.slice (some ⟨b, off, none⟩) (m + 1) cap) (some (.int .i64 1)) none none).run Try.prog wx = .ok (.slice (some ⟨b, bk2 off cap, none⟩) m (cap - 1)) wx := by
  have hc : Try.prog.cellsOf 58 = 2 := by kernel_rfl
  simp [Instr.slice, Instr.sliceBounds, Instr.sliceBound, asIntOf, run_underlying Try.underlying35, go_sem]
  unfold bk2
  rw [if_pos (by omega : (1 : Int) ≤ (m : Int) + 1)]
  simp
  split <;> rfl
theorem P2At.tail {S : Nat → Prop} {w : World} {b off m cap : Nat} {L Y : Nat → Int} (h : P2At S w (some ⟨b, off, none⟩) (m + 1) L Y) (hc : m + 1 ≤ cap) : P2At S w (some ⟨b, bk2 off cap, none⟩) m (fun i => L (i + 1)) (fun i => Y (i + 1)) := by
  intro i hi
  obtain ⟨h1, b', off', e, h2, c0, c1⟩ := h (i + 1) (by omega)
  injection e with e
  injection e with e1 e2 e3
  subst e1; subst e2
  have eo : bk2 off cap = off + 2 := if_neg (by omega)
  rw [eo]
  refine ⟨h1, b, off + 2, rfl, h2, ?_, ?_⟩
  · rw [show off + 2 + i * 2 = off + (i + 1) * 2 from by omega]; exact c0
  · rw [show off + 2 + i * 2 + 1 = off + (i + 1) * 2 + 1 from by omega]; exact c1
theorem keep2 {W : World} {q b off i j : Nat} {x : Value} (h : q ≠ b) (hc : W.cell? ⟨b, off, none⟩ = some x) (u v : Value) : ((W.setCell ⟨q, i, none⟩ u).setCell ⟨q, j, none⟩ v).cell? ⟨b, off, none⟩ = some x := by
  rw [World.cell?_setCell_far _ _ _ _ (show q ≠ b from h), World.cell?_setCell_far _ _ _ _ (show q ≠ b from h)]; exact hc
def pz (l : Int) : Nat := if 0 < l then 1 else 0
theorem pz_le (l : Int) : pz l ≤ 1 := by unfold pz; split <;> omega
structure UwI (S : Nat → Prop) (w : World) (D : List Int) (m : Nat) (wr : World) (l y : Int) (ao : Option Addr) (k cap : Nat) (L Y : Nat → Int) : Prop where
  lf : wr.heap[w.heap.size]? = some (.cells #[.int .i64 l, .int .i64 y] 58 (0, 0))
  rs : wr.heap[w.heap.size + 1]? = some (.cells #[.int .i64 0, .int .i64 0] 58 (0, 0))
  at_ : P2At (fun b => S b ∧ b < w.heap.size) wr ao k L Y
  cap : k ≤ cap
  le : 2 * k + pz l ≤ m
  i64 : I64 l ∧ I64 y
  den : List.replicate l.toNat y ++ exs L Y k = D
  bel : Below w.heap.size w wr
theorem UwI.drew {S : Nat → Prop} {w : World} {D : List Int} {m : Nat} {wr : World} {l y : Int} {ao : Option Addr} {k cap : Nat} {L Y : Nat → Int} (h : UwI S w D m wr l y ao k cap L Y) : UwI S w D m wr.drew l y ao k cap L Y :=
  ⟨h.lf, h.rs, h.at_.below (Below.refl _ _).drew, h.cap, h.le, h.i64, h.den, h.bel.drew⟩
theorem UwI.step {S : Nat → Prop} {w : World} {D : List Int} {m : Nat} {wr : World} {l y : Int} {b off : Nat} {k cap : Nat} {L Y : Nat → Int} (h : UwI S w D m wr l y (some ⟨b, off, none⟩) (k + 1) cap L Y) (hl : l ≤ 0) :
    UwI S w D m ((wr.setCell ⟨w.heap.size, 0, none⟩ (.int .i64 (L 0))).setCell ⟨w.heap.size, 1, none⟩ (.int .i64 (Y 0))) (L 0) (Y 0) (some ⟨b, bk2 off cap, none⟩) k (cap - 1) (fun i => L (i + 1)) (fun i => Y (i + 1)) := by
  have hd := h.den
  have hc := h.cap
  have hle := h.le
  have hpz := pz_le (L 0)
  refine ⟨set1_heap (set0_heap h.lf), ?_, ?_, by omega, by omega, (h.at_ 0 (by omega)).1, ?_, ?_⟩
  · rw [heap_setCell_other _ _ _ _ (by simp), heap_setCell_other _ _ _ _ (by simp)]; exact h.rs
  · refine (h.at_.tail h.cap).keep (fun b i u hs hc => ⟨hs, ?_⟩)
    rw [World.cell?_setCell_far _ _ _ _ (by show w.heap.size ≠ b; have := hs.2; omega), World.cell?_setCell_far _ _ _ _ (by show w.heap.size ≠ b; have := hs.2; omega)]
    exact hc
  · rw [← hd, show l.toNat = 0 from by omega]; simp [exs]
  · exact (h.bel.setCell (p := ⟨w.heap.size, 0, none⟩) (Nat.le_refl _) _).setCell (p := ⟨w.heap.size, 1, none⟩) (Nat.le_refl _) _
def UwP (S : Nat → Prop) (w : World) (D : List Int) (m : Nat) (e : Ending) (w' : World) : Prop :=
  ∃ l' y' ao' m' cap' L' Y', e = .returned (.tuple #[.agg #[.int .i64 l', .int .i64 y'], .slice ao' m' cap']) ∧ P2At S w' ao' m' L' Y' ∧ m' ≤ cap' ∧ 2 * m' + pz l' ≤ m ∧ (I64 l' ∧ I64 y') ∧
      List.replicate l'.toNat y' ++ exs L' Y' m' = D ∧ (0 < l' ∨ (l' ≤ 0 ∧ m' = 0)) ∧ Below w.heap.size w w'
theorem UwI.done {S : Nat → Prop} {w : World} {D : List Int} {m : Nat} {wr : World} {l y : Int} {ao : Option Addr} {k cap : Nat} {L Y : Nat → Int} (h : UwI S w D m wr l y ao k cap L Y) (hd : 0 < l ∨ (l ≤ 0 ∧ k = 0)) :
    UwP S w D m (.returned (.tuple #[.agg #[.int .i64 l, .int .i64 y], .slice ao k cap])) ((wr.setCell ⟨w.heap.size + 1, 0, none⟩ (.int .i64 l)).setCell ⟨w.heap.size + 1, 1, none⟩ (.int .i64 y)) := by
  have hg := (put2_all (v0 := .int .i64 l) (v1 := .int .i64 y) h.rs).2.2
  exact ⟨l, y, ao, k, cap, L, Y, rfl, h.at_.keep (fun b i u hs hc => ⟨hs.1, hg.cell hc (fun e => by injection e with e; dsimp only at e; have := hs.2; omega)⟩), h.cap, h.le, h.i64, h.den, hd, h.bel.trans (grown_below hg (by omega) h.bel.size)⟩
set_option maxRecDepth 100000 in
set_option maxHeartbeats 2000000 in
theorem underway_any (S : Nat → Prop) (w : World) (l y : Int) (ao : Option Addr) (m cap : Nat) (L Y : Nat → Int) (h : P2At S w ao m L Y) (hc : m ≤ cap) (hl : I64 l ∧ I64 y) :
    Calls Try.prog 38 #[.agg #[.int .i64 l, .int .i64 y], .slice ao m cap] w fun e w' => UwP S w (List.replicate l.toNat y ++ exs L Y m) (2 * m + pz l) e w' := by
  obtain ⟨M, hM⟩ : ∃ M, 2 * m + pz l = M := ⟨_, rfl⟩
  rw [hM]
  obtain ⟨D, hD⟩ : ∃ D, List.replicate l.toNat y ++ exs L Y m = D := ⟨_, rfl⟩
  rw [hD]
  have H0 : Box (UwI S w D M ((w.alloc (.cells #[.int .i64 l, .int .i64 y] 58)).alloc (.cells #[.int .i64 0, .int .i64 0] 58)) l y ao m cap L Y) := boxed (by
    have hb : Below w.heap.size w ((w.alloc (.cells #[.int .i64 l, .int .i64 y] 58)).alloc (.cells #[.int .i64 0, .int .i64 0] 58)) := below_two w _ _
    refine ⟨?_, ?_, h.keep (fun b i u hs hc => ⟨⟨hs, World.block_lt_of_cell? w ⟨b, i, none⟩ hc⟩, hold hb hc⟩), hc, by rw [hM]; exact Nat.le_refl _, hl, hD, hb⟩
    · rw [Below.heap_alloc _ _ _ (by simp)]; exact heap_alloc_new w _
    · have := heap_alloc_new (w.alloc (.cells #[.int .i64 l, .int .i64 y] 58)) (.cells #[.int .i64 0, .int .i64 0] 58)
      rwa [World.size_alloc] at this)
  clear h hD
  go_enter Try.func38, Try.ntmps38
  go_wp2_with fail
  go_loopw [1] (fun va wr => ∃ (l' y' : Int) (ao' : Option Addr) (k' cap' : Nat) (L' Y' : Nat → Int), va = .slice ao' k' cap' ∧ Box (UwI S w D M wr l' y' ao' k' cap' L' Y')) (fun va _ => match va with | .slice _ k _ => k | _ => 0)
  case atStart => exact ⟨l, y, ao, m, cap, L, Y, rfl, H0⟩
  case round =>
    obtain ⟨l', y', ao', k', cap', L', Y', rfl, HI⟩ := hrel
    obtain ⟨f0, f1, f2, f3⟩ := box_facts HI.out.lf
    obtain ⟨r0, r1, r2, r3⟩ := box_facts HI.out.rs
    by_cases c1 : 0 < l'
    · have z1 : decide (l' ≤ 0) = false := decide_eq_false (by omega)
      have HE := boxed (HI.out.done (.inl c1))
      have HP := put2_all (v0 := .int .i64 l') (v1 := .int .i64 y') HI.out.rs
      go_wp2_with fail
      refine bodyPost_ret (v := .tuple #[.agg #[.int .i64 l', .int .i64 y'], .slice ao' k' cap']) (by simp [results, Try.results38, go_sem, HP.1, HP.2.1]) rfl HE.out
    · have z1 : decide (l' ≤ 0) = true := decide_eq_true (by omega)
      by_cases c2 : k' = 0
      · subst c2
        have HE := boxed (HI.out.done (.inr ⟨by omega, rfl⟩))
        have HP := put2_all (v0 := .int .i64 l') (v1 := .int .i64 y') HI.out.rs
        go_wp2_with fail
        refine bodyPost_ret (v := .tuple #[.agg #[.int .i64 l', .int .i64 y'], .slice ao' 0 cap']) (by simp [results, Try.results38, go_sem, HP.1, HP.2.1]) rfl HE.out
      · obtain ⟨k, rfl⟩ : ∃ k, k' = k + 1 := ⟨k' - 1, by omega⟩
        obtain ⟨b, off, rfl, -⟩ := HI.out.at_.form (by omega)
        obtain ⟨e0, e1⟩ := HI.out.at_.get 0 (by omega)
        rw [Nat.zero_mul, Nat.add_zero] at e0 e1
        have hst := sl_tail b off k cap'
        have HS := boxed (HI.out.step (by omega)).drew
        have z2 : decide ((0 : Int) < ((k + 1 : Nat) : Int)) = true := decide_eq_true (by omega)
        go_wp2_with fail
        have hbw : w.heap.size ≠ b := by
          obtain ⟨-, b', off', e, hs, -⟩ := HI.out.at_ 0 (by omega)
          have : b = b' := congrArg Addr.block (Option.some.inj e)
          have := hs.2
          omega
        have HX : Box (wr.drew.cell? ⟨b, off, none⟩ = some (.int .i64 (L' 0)) ∧ wr.drew.cell? ⟨b, off + 1, none⟩ = some (.int .i64 (Y' 0))) := boxed ⟨e0, e1⟩
        have HXS : Box (∀ u v, ((wr.setCell ⟨w.heap.size, 0, none⟩ u).setCell ⟨w.heap.size, 1, none⟩ v).drew.cell? ⟨b, off, none⟩ = some (.int .i64 (L' 0)) ∧ ((wr.setCell ⟨w.heap.size, 0, none⟩ u).setCell ⟨w.heap.size, 1, none⟩ v).drew.cell? ⟨b, off + 1, none⟩ = some (.int .i64 (Y' 0))) := boxed (fun u v => ⟨keep2 hbw e0 u v, keep2 hbw e1 u v⟩)
        have g0 : wr.drew.cell? _ = _ := f0
        have g1 : wr.drew.cell? _ = _ := f1
        have g2 : wr.drew.frozen? _ = _ := f2
        have g3 : wr.drew.frozen? _ = _ := f3
        clear e0 e1
        generalize L' 0 = l0 at *
        generalize Y' 0 = y0 at *
        go_region_held3 (fun W' => W'.cell? ⟨b, off, none⟩ = some (.int .i64 l0) ∧ W'.cell? ⟨b, off + 1, none⟩ = some (.int .i64 y0))
          (first | with_reducible exact HX.out | with_reducible exact HXS.out _ _)
          (fail)
        go_wp2_with fail
        go_roundw
        case rel => exact ⟨_, _, _, _, _, _, _, rfl, HS⟩
        case measure => simp
structure Side where
  l : Int
  y : Int
  ao : Option Addr
  m : Nat
  cap : Nat
  L : Nat → Int
  Y : Nat → Int
def Side.den (z : Side) : List Int := List.replicate z.l.toNat z.y ++ exs z.L z.Y z.m
structure SdAt (n₀ : Nat) (W : World) (q : Nat) (z : Side) : Prop where
  bx : W.heap[q]? = some (.cells #[.int .i64 z.l, .int .i64 z.y] 58 (0, 0))
  at_ : P2At (· < n₀) W z.ao z.m z.L z.Y
  cap : z.m ≤ z.cap
  i64 : I64 z.l ∧ I64 z.y
theorem SdAt.below {n₀ : Nat} {W W' : World} {q : Nat} {z : Side} (h : SdAt n₀ W q z) (hb : Below W.heap.size W W') : SdAt n₀ W' q z :=
  ⟨by rw [hb.block _ (Array.getElem?_eq_some_iff.1 h.bx).1]; exact h.bx, h.at_.below hb, h.cap, h.i64⟩
theorem SdAt.other {n₀ : Nat} {W W' : World} {q r : Nat} {z : Side} (h : SdAt n₀ W q z) (hg : W.grownBy W' (some r)) (hr : n₀ ≤ r) (hne : q ≠ r) : SdAt n₀ W' q z :=
  ⟨by rw [hg.block _ (Array.getElem?_eq_some_iff.1 h.bx).1 (fun e => by injection e; omega)]; exact h.bx, h.at_.keep (fun b i u hs hc => ⟨hs, hg.cell hc (fun e => by injection e with e; dsimp only at e; omega)⟩), h.cap, h.i64⟩
theorem SdAt.put {n₀ : Nat} {W : World} {q : Nat} {x0 x1 : Value} (hb : W.heap[q]? = some (.cells #[x0, x1] 58 (0, 0))) (z : Side) (h : P2At (· < n₀) W z.ao z.m z.L z.Y) (hc : z.m ≤ z.cap) (hi : I64 z.l ∧ I64 z.y) (hq : n₀ ≤ q) :
    SdAt n₀ ((W.setCell ⟨q, 0, none⟩ (.int .i64 z.l)).setCell ⟨q, 1, none⟩ (.int .i64 z.y)) q z := by
  have hg := (put2_all (v0 := .int .i64 z.l) (v1 := .int .i64 z.y) hb).2.2
  exact ⟨set1_heap (set0_heap hb), h.keep (fun b i u hs hc => ⟨hs, hg.cell hc (fun e => by injection e with e; dsimp only at e; omega)⟩), hc, hi⟩
structure SmI (w : World) (D1 D2 : List Int) (W : World) (z1 z2 : Side) : Prop where
  s1 : SdAt w.heap.size W w.heap.size z1
  s2 : SdAt w.heap.size W (w.heap.size + 1) z2
  eq : z1.den = z2.den ↔ D1 = D2
  bel : Below w.heap.size w W
theorem SmI.below {w : World} {D1 D2 : List Int} {W W' : World} {z1 z2 : Side} (h : SmI w D1 D2 W z1 z2) (hb : Below W.heap.size W W') : SmI w D1 D2 W' z1 z2 :=
  ⟨h.s1.below hb, h.s2.below hb, h.eq, h.bel.trans (hb.mono h.bel.size)⟩
theorem SmI.one {w : World} {D1 D2 : List Int} {W : World} {z1 z2 z : Side} (h : SmI w D1 D2 W z1 z2) (ha : P2At (· < w.heap.size) W z.ao z.m z.L z.Y) (hc : z.m ≤ z.cap) (hi : I64 z.l ∧ I64 z.y) (hd : z.den = z2.den ↔ z1.den = z2.den) :
    SmI w D1 D2 ((W.setCell ⟨w.heap.size, 0, none⟩ (.int .i64 z.l)).setCell ⟨w.heap.size, 1, none⟩ (.int .i64 z.y)) z z2 := by
  have hg := (put2_all (v0 := .int .i64 z.l) (v1 := .int .i64 z.y) h.s1.bx).2.2
  exact ⟨SdAt.put h.s1.bx z ha hc hi (Nat.le_refl _), h.s2.other hg (Nat.le_refl _) (by omega), hd.trans h.eq, h.bel.trans (grown_below hg (Nat.le_refl _) h.bel.size)⟩
theorem SmI.two {w : World} {D1 D2 : List Int} {W : World} {z1 z2 z : Side} (h : SmI w D1 D2 W z1 z2) (ha : P2At (· < w.heap.size) W z.ao z.m z.L z.Y) (hc : z.m ≤ z.cap) (hi : I64 z.l ∧ I64 z.y) (hd : z1.den = z.den ↔ z1.den = z2.den) :
    SmI w D1 D2 ((W.setCell ⟨w.heap.size + 1, 0, none⟩ (.int .i64 z.l)).setCell ⟨w.heap.size + 1, 1, none⟩ (.int .i64 z.y)) z1 z := by
  have hg := (put2_all (v0 := .int .i64 z.l) (v1 := .int .i64 z.y) h.s2.bx).2.2
  exact ⟨h.s1.other hg (by omega) (by omega), SdAt.put h.s2.bx z ha hc hi (by omega), hd.trans h.eq, h.bel.trans (grown_below hg (by omega) h.bel.size)⟩
theorem i64_zero : I64 0 := ⟨by omega, by omega⟩
def rdL (W : World) (q : Nat) : Int := match W.cell? ⟨q, 0, none⟩ with | some (.int _ v) => v | _ => 0
def smu (w : World) (va vb : Value) (W : World) : Nat := (match va with | .slice _ k _ => 2 * k | _ => 0) + (match vb with | .slice _ k _ => 2 * k | _ => 0) + pz (rdL W w.heap.size) + pz (rdL W (w.heap.size + 1))
theorem smu_eq {w : World} {D1 D2 : List Int} {W : World} {z1 z2 : Side} (h : SmI w D1 D2 W z1 z2) : smu w (.slice z1.ao z1.m z1.cap) (.slice z2.ao z2.m z2.cap) W = 2 * z1.m + pz z1.l + (2 * z2.m + pz z2.l) := by
  unfold smu rdL
  rw [(box_facts h.s1.bx).1, (box_facts h.s2.bx).1]
  simp only
  omega
theorem SmI.cut {w : World} {D1 D2 : List Int} {W : World} {z1 z2 : Side} (h : SmI w D1 D2 W z1 z2) (n : Int) (hn : n ≤ z1.l ∧ n ≤ z2.l ∧ 0 ≤ n) (hy : z1.y = z2.y) :
    SmI w D1 D2 ((W.setCell ⟨w.heap.size, 0, none⟩ (.int .i64 (z1.l - n))).setCell ⟨w.heap.size + 1, 0, none⟩ (.int .i64 (z2.l - n))) { z1 with l := z1.l - n } { z2 with l := z2.l - n } := by
  have g1 : W.grownBy (W.setCell ⟨w.heap.size, 0, none⟩ (.int .i64 (z1.l - n))) (some w.heap.size) := grown_set _ _ _ _
  have g2 := grown_set (W.setCell ⟨w.heap.size, 0, none⟩ (.int .i64 (z1.l - n))) (w.heap.size + 1) 0 (.int .i64 (z2.l - n))
  have a1 := h.s1.i64
  have a2 := h.s2.i64
  have s1' : SdAt w.heap.size (W.setCell ⟨w.heap.size, 0, none⟩ (.int .i64 (z1.l - n))) w.heap.size { z1 with l := z1.l - n } :=
    ⟨set0_heap h.s1.bx, h.s1.at_.keep (fun b i u hs hc => ⟨hs, g1.cell hc (fun e => by injection e with e; dsimp only at e; omega)⟩), h.s1.cap, ⟨by have := a1.1.1; have := a1.1.2; show _ ≤ z1.l - n; omega, by have := a1.1.2; show z1.l - n ≤ _; omega⟩, a1.2⟩
  have s2' := h.s2.other g1 (Nat.le_refl _) (by omega)
  have hd : ({ z1 with l := z1.l - n } : Side).den = ({ z2 with l := z2.l - n } : Side).den ↔ z1.den = z2.den := by
    unfold Side.den
    dsimp only
    rw [show z1.l.toNat = n.toNat + (z1.l - n).toNat from by omega, show z2.l.toNat = n.toNat + (z2.l - n).toNat from by omega, ← hy, ← List.replicate_append_replicate, ← List.replicate_append_replicate, List.append_assoc, List.append_assoc, List.append_right_inj]
  refine ⟨s1'.other g2 (by omega) (by omega), ⟨set0_heap s2'.bx, s2'.at_.keep (fun b i u hs hc => ⟨hs, g2.cell hc (fun e => by injection e with e; dsimp only at e; omega)⟩), s2'.cap, ⟨by have := a2.1.1; have := a2.1.2; show _ ≤ z2.l - n; omega, by have := a2.1.2; show z2.l - n ≤ _; omega⟩, a2.2⟩, hd.trans h.eq, ?_⟩
  exact (h.bel.setCell (p := ⟨w.heap.size, 0, none⟩) (Nat.le_refl _) _).setCell (p := ⟨w.heap.size + 1, 0, none⟩) (by show w.heap.size ≤ w.heap.size + 1; omega) _
theorem den_nil {z : Side} (h : z.l ≤ 0) (hm : z.m = 0) : z.den = [] := by unfold Side.den; rw [hm, show z.l.toNat = 0 from by omega]; rfl
theorem den_cons {z : Side} (h : 0 < z.l) : ∃ r, z.den = z.y :: r := by
  unfold Side.den
  obtain ⟨k, hk⟩ : ∃ k, z.l.toNat = k + 1 := ⟨z.l.toNat - 1, by omega⟩
  rw [hk, List.replicate_succ]
  exact ⟨_, rfl⟩
set_option maxRecDepth 100000 in
set_option maxHeartbeats 4000000 in
theorem psame_any (w : World) (ao bo : Option Addr) (m1 c1 m2 c2 : Nat) (L1 Y1 L2 Y2 : Nat → Int) (h1 : P2At (fun _ => True) w ao m1 L1 Y1) (h2 : P2At (fun _ => True) w bo m2 L2 Y2) (k1 : m1 ≤ c1) (k2 : m2 ≤ c2) :
    Calls Try.prog 34 #[.slice ao m1 c1, .slice bo m2 c2] w fun e w' => ∃ r, e = .returned (.bool r) ∧ (r = true ↔ exs L1 Y1 m1 = exs L2 Y2 m2) ∧ Below w.heap.size w w' := by
  have H0 : Box (SmI w (exs L1 Y1 m1) (exs L2 Y2 m2) ((w.alloc (.cells #[.int .i64 0, .int .i64 0] 58)).alloc (.cells #[.int .i64 0, .int .i64 0] 58)) ⟨0, 0, ao, m1, c1, L1, Y1⟩ ⟨0, 0, bo, m2, c2, L2, Y2⟩) := boxed (by
    have hb : Below w.heap.size w ((w.alloc (.cells #[.int .i64 0, .int .i64 0] 58)).alloc (.cells #[.int .i64 0, .int .i64 0] 58)) := below_two w _ _
    refine ⟨⟨?_, h1.keep (fun b i u _ hc => ⟨World.block_lt_of_cell? w ⟨b, i, none⟩ hc, hold hb hc⟩), k1, ⟨i64_zero, i64_zero⟩⟩, ⟨?_, h2.keep (fun b i u _ hc => ⟨World.block_lt_of_cell? w ⟨b, i, none⟩ hc, hold hb hc⟩), k2, ⟨i64_zero, i64_zero⟩⟩, by simp [Side.den], hb⟩
    · rw [Below.heap_alloc _ _ _ (by simp)]; exact heap_alloc_new w _
    · have := heap_alloc_new (w.alloc (.cells #[.int .i64 0, .int .i64 0] 58)) (.cells #[.int .i64 0, .int .i64 0] 58)
      rwa [World.size_alloc] at this)
  obtain ⟨D1, hD1⟩ : ∃ D, exs L1 Y1 m1 = D := ⟨_, rfl⟩
  obtain ⟨D2, hD2⟩ : ∃ D, exs L2 Y2 m2 = D := ⟨_, rfl⟩
  rw [hD1, hD2] at H0 ⊢
  clear h1 h2 hD1 hD2
  go_enter Try.func34, Try.ntmps34
  go_wp2_with fail
  go_loopw [0, 1] (fun va vb wr => ∃ z1 z2 : Side, va = .slice z1.ao z1.m z1.cap ∧ vb = .slice z2.ao z2.m z2.cap ∧ Box (SmI w D1 D2 wr z1 z2)) (fun va vb wr => smu w va vb wr)
  case atStart => exact ⟨_, _, rfl, rfl, H0⟩
  case round =>
    obtain ⟨z1, z2, rfl, rfl, HI⟩ := hrel
    have HM := boxed (smu_eq HI.out)
    have HU1 := boxed (underway_any (· < w.heap.size) wr z1.l z1.y z1.ao z1.m z1.cap z1.L z1.Y HI.out.s1.at_ HI.out.s1.cap HI.out.s1.i64)
    obtain ⟨a0, a1, a2, a3⟩ := box_facts HI.out.s1.bx
    obtain ⟨b0, b1, b2, b3⟩ := box_facts HI.out.s2.bx
    have hzw : (w.heap.size : Nat) ≠ w.heap.size + 1 := by omega
    go_wp2_with fail
    refine HU1.out.mono ?_
    rintro e w1 ⟨l1, y1, ao1, m1', cap1, L1', Y1', rfl, hp1, hc1, hm1, hi1, hd1, hz1, hb1⟩
    have HS1 := boxed (HI.out.below hb1)
    have HS2 := boxed (HS1.out.one (z := ⟨l1, y1, ao1, m1', cap1, L1', Y1'⟩) hp1 hc1 hi1 (by unfold Side.den; dsimp only; rw [hd1]))
    have HU2 := boxed (underway_any (· < w.heap.size) _ z2.l z2.y z2.ao z2.m z2.cap z2.L z2.Y HS2.out.s2.at_ HS2.out.s2.cap HS2.out.s2.i64)
    obtain ⟨a0, a1, a2, a3⟩ := box_facts HS1.out.s1.bx
    obtain ⟨b0, b1, b2, b3⟩ := box_facts HS1.out.s2.bx
    clear hp1 hc1 hi1 hb1 HU1 hd1
    go_wp2_with fail
    refine HU2.out.mono ?_
    rintro e w2 ⟨l2, y2, ao2, m2', cap2, L2', Y2', rfl, hp2, hc2, hm2, hi2, hd2, hz2, hb2⟩
    have HS3 := boxed (HS2.out.below hb2)
    have HS4 := boxed (HS3.out.two (z := ⟨l2, y2, ao2, m2', cap2, L2', Y2'⟩) hp2 hc2 hi2 (by unfold Side.den; dsimp only; rw [hd2]))
    obtain ⟨a0, a1, a2, a3⟩ := box_facts HS3.out.s1.bx
    obtain ⟨b0, b1, b2, b3⟩ := box_facts HS3.out.s2.bx
    dsimp only at a0 a1
    clear hp2 hc2 hi2 hb2 HU2 hd2
    by_cases c1 : l1 ≤ 0
    · have t1 : decide (l1 ≤ 0) = true := decide_eq_true c1
      have HN1 : Box ((⟨l1, y1, ao1, m1', cap1, L1', Y1'⟩ : Side).den = []) := boxed (den_nil c1 (by show m1' = 0; omega))
      by_cases c2 : l2 ≤ 0
      · have t2 : decide (l2 ≤ 0) = true := decide_eq_true c2
        have HN2 : Box ((⟨l2, y2, ao2, m2', cap2, L2', Y2'⟩ : Side).den = []) := boxed (den_nil c2 (by show m2' = 0; omega))
        go_wp2
        go_ret
        exact ⟨true, rfl, ⟨fun _ => HS4.out.eq.1 (by rw [HN1.out, HN2.out]), fun _ => rfl⟩, HS4.out.bel⟩
      · have t2 : decide (l2 ≤ 0) = false := decide_eq_false c2
        obtain ⟨r, hr⟩ := den_cons (z := ⟨l2, y2, ao2, m2', cap2, L2', Y2'⟩) (by show 0 < l2; omega)
        have HN2 := boxed hr
        clear hr
        go_wp2
        go_ret
        exact ⟨false, rfl, ⟨(fun h => by cases h), fun h => by have := HS4.out.eq.2 h; rw [HN1.out, HN2.out] at this; cases this⟩, HS4.out.bel⟩
    · have t1 : decide (l1 ≤ 0) = false := decide_eq_false c1
      obtain ⟨r1, hr1⟩ := den_cons (z := ⟨l1, y1, ao1, m1', cap1, L1', Y1'⟩) (by show 0 < l1; omega)
      have HN1 := boxed hr1
      clear hr1
      by_cases c2 : l2 ≤ 0
      · have t2 : decide (l2 ≤ 0) = true := decide_eq_true c2
        have HN2 : Box ((⟨l2, y2, ao2, m2', cap2, L2', Y2'⟩ : Side).den = []) := boxed (den_nil c2 (by show m2' = 0; omega))
        go_wp2
        go_ret
        exact ⟨false, rfl, ⟨(fun h => by cases h), fun h => by have := HS4.out.eq.2 h; rw [HN1.out, HN2.out] at this; cases this⟩, HS4.out.bel⟩
      · have t2 : decide (l2 ≤ 0) = false := decide_eq_false c2
        obtain ⟨r2, hr2⟩ := den_cons (z := ⟨l2, y2, ao2, m2', cap2, L2', Y2'⟩) (by show 0 < l2; omega)
        have HN2 := boxed hr2
        clear hr2
        by_cases c3 : y1 = y2
        · have t3 : (y1 == y2) = true := by simpa using c3
          obtain ⟨k, hk⟩ : ∃ k : Int, (if l2 < l1 then l2 else l1) = k := ⟨_, rfl⟩
          have hk1 : k ≤ l1 ∧ k ≤ l2 ∧ 0 ≤ k ∧ (k = l1 ∨ k = l2) := by split at hk <;> omega
          have hk2 : min l1 l2 = k := by omega
          have i1 := HS4.out.s1.i64.1
          have i2 := HS4.out.s2.i64.1
          dsimp only at i1 i2
          have w1a : IntKind.i64.wrap (l1 - k) = l1 - k := by have := i1.1; have := i1.2; rw [IntKind.wrap_i64]; omega
          have w2a : IntKind.i64.wrap (l2 - k) = l2 - k := by have := i2.1; have := i2.2; rw [IntKind.wrap_i64]; omega
          have HS5 := boxed (HS4.out.cut k ⟨hk1.1, hk1.2.1, hk1.2.2.1⟩ c3)
          have hmm : 2 * m1' + pz (l1 - k) + (2 * m2' + pz (l2 - k)) < 2 * z1.m + pz z1.l + (2 * z2.m + pz z2.l) := by
            have e1 : pz l1 = 1 := if_pos (by omega)
            have e2 : pz l2 = 1 := if_pos (by omega)
            rw [e1] at hm1
            rw [e2] at hm2
            have e3 := pz_le (l1 - k)
            have e4 := pz_le (l2 - k)
            rcases hk1.2.2.2 with rfl | rfl
            · have e5 : pz (k - k) = 0 := if_neg (by omega)
              omega
            · have e5 : pz (k - k) = 0 := if_neg (by omega)
              omega
          have HMM := boxed hmm
          clear hm1 hm2 hmm i1 i2
          go_wp2_with fail
          exact ⟨⟨_, _, rfl, rfl, HS5⟩, by have e1 := smu_eq HS5.out; dsimp only at e1; rw [e1, HM.out]; exact HMM.out⟩
        · have t3 : (y1 == y2) = false := by simpa using c3
          go_wp2
          go_ret
          exact ⟨false, rfl, ⟨(fun h => by cases h), fun h => by have := HS4.out.eq.2 h; rw [HN1.out, HN2.out] at this; injection this with h1 h2; exact absurd h1 c3⟩, HS4.out.bel⟩
theorem own_shape {w : World} {base size n : Nat} {e : TypeId} {v : Value} {xs : List Value} (h : w.ownsRow base e size v n xs) : ∃ ao cap, v = .slice ao n cap := by
  rcases ownsRow_forms h with ⟨g1, g2⟩ | ⟨g, cap, g1⟩
  · exact ⟨none, 0, by rw [g2]; exact g1⟩
  · exact ⟨_, _, g1⟩
theorem wpList_append_rows {P : Program} {w : World} {ops : Array Oper} {rest : List Oper} {o : Oper} {a : Act} {Q : Exit → Act → World → Prop} (hgd : o.guard = none) (s x : Operand) (t : TypeId)
    (ho : o.op = .call { callee := .builtin .append, args := #[s, x], argTypes := #[t, t] })
    (base : Nat) (e : TypeId) (i : TypeInfo) (z : Value) (size bytes : Nat) (ht : P.underlying t = some (.slice e)) (hi : P.info? e = some i) (hz : i.zero = some z)
    (hsize : i.size = size) (hby : i.bytes = bytes) (hzs : z.cells.size = size) (hsz : 0 < size)
    (v : Value) (n : Nat) (xs : List Value) (hs : a.eval s = v) (hown : w.ownsRow base e size v n xs)
    (B2 : Nat) (vx : Value) (m : Nat) (ys : List Value) (hx : a.eval x = vx) (hsrc : w.ownsRow B2 e size vx m ys) (h1 : ∀ u ∈ ys, u.oneCell' = true)
    (h63 : n + m ≤ maxLen) (hbytes : (n + m) * bytes ≤ 140737488355328) (hbase : base ≤ w.heap.size)
    (h : ∀ v' w', w'.ownsRow base e size v' (n + m) (xs ++ ys) → w.grownBy w' v.ownBlock → wpList P ops Q rest (a.put o.dst v') w') : wpList P ops Q (o :: rest) a w := by
  rcases ownsRow_forms hsrc with ⟨e1, e2⟩ | ⟨g, cap, e1⟩
  · subst e2
    have hl := hsrc.1
    rw [Nat.zero_mul] at hl
    obtain rfl : ys = [] := List.eq_nil_of_length_eq_zero hl
    refine wpList_plain hgd fun K hK => ?_
    have hrun := run_append_nothing (P := P) (w := w) base t o.type e i size 0 ht hi v n xs hown
    rw [e1] at hx
    unfold Oper.wp
    simp [execOp, ho, resolve, invoke, builtin, hs, hx, hrun, Result.andThen]
    exact hK _ _ (h v w (by simpa using hown) (World.grownBy.refl _ _))
  · subst e1
    exact wpList_append_own _ hgd s x t ho base e i z size bytes ht hi hz hsize hby hzs hsz v n xs hs hown ⟨g, 0, none⟩ m cap ys hx hsrc.1 (hsrc.cells rfl) h1 h63 hbytes hbase (fun v' w' h2 h3 _ => h v' w' h2 h3)
theorem rcs_one (R : List (Nat × Int)) : ∀ u ∈ rcs R, u.oneCell' = true := by
  induction R with
  | nil => intro u hu; simp [rcs] at hu
  | cons p r ih =>
    intro u hu
    simp only [rcs, List.mem_cons] at hu
    rcases hu with rfl | rfl | hu
    · rfl
    · rfl
    · exact ih u hu
theorem exr_len2 (L Y : Nat → Int) (n k : Nat) (hk : k ≤ n) (h : ∀ i, i < n → L i ≤ 1099511627776) : (exr L Y k).length ≤ k * 1099511627776 := by
  induction k with
  | zero => simp [exr]
  | succ k ih =>
    have := ih (by omega)
    have := h k (by omega)
    simp only [exr, List.length_append, List.length_replicate]
    omega
theorem enc_grow (s : List Int) (l : Nat) (y : Int) : (enc (s ++ List.replicate l y)).length ≤ (enc s).length + 1 := by
  by_cases hl : l = 0
  · subst hl; simp
  · by_cases c : (enc s).length = 0
    · have e1 : s = [] := List.length_eq_zero_iff.1 ((enc_nil _).1 c)
      rw [e1, List.nil_append, enc_add_nil l y (by omega)]; simp
    · obtain ⟨R0, ⟨l0, z⟩, hR⟩ := snoc_of (enc s) (by omega)
      by_cases d : z = y
      · subst d
        rw [enc_add_like _ R0 l0 l z hR, hR]; simp
      · rw [enc_add_new _ l y (by omega) (by rw [hR]; simp; exact d)]; simp
theorem exr_count (L Y : Nat → Int) (k : Nat) : (enc (exr L Y k)).length ≤ k := by
  induction k with
  | zero => simp [exr, enc]
  | succ k ih => have := enc_grow (exr L Y k) (L k).toNat (Y k); simp only [exr]; omega
set_option maxRecDepth 100000 in
set_option maxHeartbeats 4000000 in
theorem merged_any (w : World) (lo : Option Addr) (n c : Nat) (L Y : Nat → Int) (h : P2At (fun _ => True) w lo n L Y) (hn : n ≤ 4096) (hL : ∀ i, i < n → L i ≤ 1099511627776) :
    Calls Try.prog 26 #[.slice lo n c] w fun e w' => ∃ v, e = .returned v ∧ w'.ownsRow w.heap.size 58 2 v (enc (exr L Y n)).length (rcs (enc (exr L Y n))) ∧ Below w.heap.size w w' := by
  obtain ⟨i0, hi, hi0, hi1, hi2⟩ := info_parts info_run
  have HP := boxed h
  have HLb := boxed hL
  have HEL := boxed (fun k (hk : k ≤ n) => exr_len2 L Y n k hk hL)
  have HEC := boxed (fun k => exr_count L Y k)
  clear h hL
  go_enter Try.func26, Try.ntmps26
  go_wp2_with fail
  go_loopw [3, 4] (fun vo vi wr => ∃ (i : Nat) (ao : Option Addr) (cp : Nat), i ≤ n ∧ vi = .int .i64 (i : Nat) ∧ vo = .slice ao (enc (exr L Y i)).length cp ∧ Box (wr.ownsRow w.heap.size 58 2 (.slice ao (enc (exr L Y i)).length cp) (enc (exr L Y i)).length (rcs (enc (exr L Y i)))) ∧ Box (Below w.heap.size w wr)) (fun _ vi _ => n - (intOf vi).toNat)
  case atStart => exact ⟨0, none, 0, Nat.zero_le _, rfl, rfl, boxed (World.ownsRow_nil _ _ _ _), boxed (Below.refl _ _)⟩
  case round =>
    obtain ⟨i, ao, cp, hin, rfl, rfl, HO, HB⟩ := hrel
    by_cases hlt : i < n
    · obtain ⟨lbk, loff, rfl, -⟩ := HP.out.form (by omega)
      obtain ⟨hci0, hci1⟩ := (HP.out.below HB.out).get i hlt
      have HT : Box (exr L Y (i + 1) = exr L Y i ++ List.replicate (L i).toNat (Y i)) := boxed rfl
      have hen := HEC.out i
      have hln := HEL.out i (by omega)
      have hLi := HLb.out i hlt
      have hun : undef = Value.tuple #[] := rfl
      generalize Y i = y at *
      generalize hl9 : L i = l9 at *
      clear hl9
      by_cases c0 : l9 ≤ 0
      · have t9 : decide (l9 ≤ 0) = true := decide_eq_true c0
        have HN : Box (exr L Y (i + 1) = exr L Y i) := boxed (by rw [HT.out, show l9.toNat = 0 from by omega]; simp)
        clear HT
        go_wp2_with fail
        clear hun
        go_roundw
        case rel => exact ⟨i + 1, ao, cp, by omega, by go_num, by rw [HN.out], by rw [HN.out]; exact HO, HB⟩
        case measure => simp [intOf]; omega
      have t9 : decide (l9 ≤ 0) = false := decide_eq_false c0
      obtain ⟨l, rfl⟩ : ∃ l : Nat, l9 = l := ⟨l9.toNat, by omega⟩
      have hl0 : 0 < l := by omega
      rw [show ((l : Int)).toNat = l from by simp] at HT
      clear c0
      by_cases c1 : (enc (exr L Y i)).length = 0
      · have e1 : exr L Y i = [] := List.length_eq_zero_iff.1 ((enc_nil _).1 c1)
        rw [c1]
        have HO : Box (wr.ownsRow w.heap.size 58 2 (.slice ao 0 cp) 0 []) := boxed (by have := HO.out; rw [e1] at this; exact this)
        have HN : Box ((enc (exr L Y (i + 1))).length = 0 + 1 ∧ rcs (enc (exr L Y (i + 1))) = [] ++ [.int .i64 (l : Nat), .int .i64 y]) := boxed (by rw [HT.out, e1, List.nil_append, enc_add_nil l y hl0]; simp [rcs])
        clear c1 e1 HT hen
        go_wp2_with fail
        go_quiet (fail)
        clear hun
        have HB7 : Box (Below w.heap.size w (wr.drewN nq)) := boxed (HB.out.trans (bel_drewN _ _ _))
        have hown7 : (wr.drewN nq).ownsRow _ _ _ _ _ _ := HO.out
        have hci7 : (wr.drewN nq).cell? _ = _ := hci0
        have hci8 : (wr.drewN nq).cell? _ = _ := hci1
        have hz7 : w.heap.size ≤ (wr.drewN nq).heap.size := HB7.out.size
        generalize wr.drewN nq = w7 at *
        go_wp2_with (at_builtin; refine wpList_append_own _ rfl _ _ 35 rfl w.heap.size 58 i0 _ 2 16 Try.underlying35 hi hi0 hi1 hi2 rfl (by decide) _ _ _ rfl (hown7.alloc _) ⟨w7.heap.size, 0, none⟩ 1 1 [.int .i64 (l : Nat), .int .i64 y] rfl rfl ?c1 ?c2 ?c3 ?c4 ?c5 ?_)
        case c1 =>
          intro j u hj
          match j, hj with
          | 0, hj => simp at hj; subst hj; simp [Addr.add]
          | 1, hj => simp at hj; subst hj; simp [Addr.add]
        case c2 => intro u hu; simp at hu; rcases hu with rfl | rfl <;> rfl
        case c3 => unfold maxLen; omega
        case c4 => omega
        case c5 => simp; omega
        intro v' w6 hown6 hgrow6 _
        have HB6 : Box (Below w.heap.size w w6) := boxed ((HB7.out.alloc hz7 _).grown hgrow6 (by simp; omega) (fun r e => (owns_ge hown7 r e)))
        have HO6 : Box (w6.ownsRow w.heap.size 58 2 v' (enc (exr L Y (i + 1))).length (rcs (enc (exr L Y (i + 1))))) := boxed (by rw [HN.out.1, HN.out.2]; exact hown6)
        obtain ⟨ao6, cp6, rfl⟩ : ∃ ao6 cp6, v' = .slice ao6 (enc (exr L Y (i + 1))).length cp6 := by
          rcases ownsRow_forms HO6.out with ⟨g1, g2⟩ | ⟨g, cap, g1⟩
          · exact ⟨none, 0, by rw [g2]; exact g1⟩
          · exact ⟨_, _, g1⟩
        clear hown6 hgrow6 hown7 HN HB7
        go_wp2_with fail
        go_roundw
        case rel => exact ⟨i + 1, ao6, cp6, by omega, by go_num, rfl, HO6, HB6⟩
        case measure => simp [intOf]; omega
      · obtain ⟨R0, ⟨l0, z⟩, hR⟩ := snoc_of (enc (exr L Y i)) (by omega)
        have hn : (enc (exr L Y i)).length = R0.length + 1 := by rw [hR]; simp
        have hrc : rcs (enc (exr L Y i)) = rcs R0 ++ [.int .i64 (l0 : Nat), .int .i64 z] := by rw [hR, rcs_app]; simp [rcs]
        have hpl := rcs_len R0
        have hmb : R0.length ≤ 65536 := by omega
        obtain ⟨g, hg⟩ : ∃ g, ao = some ⟨g, 0, none⟩ := by
          obtain ⟨g, cap', e⟩ := ownsRow_form HO.out (by omega)
          injection e with e1 e2 e3
          exact ⟨g, e1⟩
        subst hg
        have hown := HO.out
        rw [hn, hrc] at hown
        have hlast : (rcs R0 ++ [Value.int .i64 (l0 : Nat), Value.int .i64 z])[R0.length * 2 + 1]? = some (.int .i64 z) := by
          rw [List.getElem?_append_right (by omega), hpl]; simp
        have hlast0 : (rcs R0 ++ [Value.int .i64 (l0 : Nat), Value.int .i64 z])[R0.length * 2]? = some (.int .i64 (l0 : Nat)) := by
          rw [List.getElem?_append_right (by omega), hpl]; simp
        have hx1 := hown.cellAt (R0.length * 2 + 1) (by omega)
        have hx0 := hown.cellAt (R0.length * 2) (by omega)
        rw [hlast] at hx1
        rw [hlast0] at hx0
        have hf0 := hown.frozenAt (R0.length * 2)
        have HO := boxed hown
        have hsm : sm R0 + l0 = (exr L Y i).length := by have := sm_enc (exr L Y i); rw [hR, sm_app] at this; simpa [sm] using this
        rw [hn]
        by_cases c2 : z = y
        · subst c2
          have HN : Box ((enc (exr L Y (i + 1))).length = R0.length + 1 ∧ rcs (enc (exr L Y (i + 1))) = (rcs R0 ++ [Value.int .i64 (l0 : Nat), Value.int .i64 z]).set (R0.length * 2) (.int .i64 ((l0 + l : Nat) : Int))) := boxed (by
            rw [HT.out, enc_add_like _ R0 l0 l z hR]
            refine ⟨by simp, ?_⟩
            rw [List.set_append_right _ _ (by omega), hpl, rcs_app]
            simp [rcs])
          clear hown hlast hlast0 hR hrc hn c1
          generalize R0.length = m at *
          have hwm : IntKind.i64.wrap ((m : Int) + 1 - 1) = (m : Int) := by rw [IntKind.wrap_i64]; omega
          have t0 : decide ((0 : Int) < (m : Int) + 1) = true := decide_eq_true (by omega)
          go_wp2_with fail
          go_quiet (fail)
          clear hun
          have HB7 : Box (Below w.heap.size w (wr.drewN nq)) := boxed (HB.out.trans (bel_drewN _ _ _))
          have HO7 : Box ((wr.drewN nq).ownsRow _ _ _ _ _ _) := boxed HO.out
          have dx0 : (wr.drewN nq).cell? ⟨g, m * 2, none⟩ = some (.int .i64 (l0 : Nat)) := hx0
          have df0 : (wr.drewN nq).frozen? ⟨g, m * 2, none⟩ = false := hf0
          have dc0 : (wr.drewN nq).cell? ⟨lbk, loff + i * 2, none⟩ = some (.int .i64 (l : Nat)) := hci0
          generalize wr.drewN nq = w7 at *
          have hgB := (HO7.out.lt g rfl).1
          have HO8 : Box ((w7.setCell ⟨g, m * 2, none⟩ (.int .i64 ((l0 : Int) + (l : Int)))).ownsRow w.heap.size 58 2 (.slice (some ⟨g, 0, none⟩) (m + 1) cp) (enc (exr L Y (i + 1))).length (rcs (enc (exr L Y (i + 1))))) := boxed (by
            rw [HN.out.1, HN.out.2]
            have := (HO7.out.stored (m * 2) (.int .i64 ((l0 + l : Nat) : Int))).1
            simpa using this)
          have HN1 : Box ((enc (exr L Y (i + 1))).length = m + 1) := boxed HN.out.1
          have HO8' : Box ((w7.setCell ⟨g, m * 2, none⟩ (.int .i64 ((l0 : Int) + (l : Int)))).ownsRow w.heap.size 58 2 (.slice (some ⟨g, 0, none⟩) (m + 1) cp) (m + 1) (rcs (enc (exr L Y (i + 1))))) := boxed (by have := HO8.out; rw [HN1.out] at this; exact this)
          have HB8 : Box (Below w.heap.size w (w7.setCell ⟨g, m * 2, none⟩ (.int .i64 ((l0 : Int) + (l : Int))))) := boxed (HB7.out.setCell (p := ⟨g, m * 2, none⟩) hgB _)
          have HO9 := boxed (owns_below HO8'.out (Below.refl _ _).drew)
          have HB9 := boxed HB8.out.drew
          have ex0 : w7.drew.cell? ⟨g, m * 2, none⟩ = some (.int .i64 (l0 : Nat)) := dx0
          have ef0 : w7.drew.frozen? ⟨g, m * 2, none⟩ = false := df0
          have ec0 : w7.drew.cell? ⟨lbk, loff + i * 2, none⟩ = some (.int .i64 (l : Nat)) := dc0
          have hws : IntKind.i64.wrap ((l0 : Int) + (l : Int)) = (l0 : Int) + (l : Int) := by rw [IntKind.wrap_i64]; omega
          clear HN HO7 HB7
          go_wp2_with fail
          go_region
          · skip
            go_wp2_with fail
            go_roundw
            case rel => exact ⟨i + 1, some ⟨g, 0, none⟩, cp, by omega, by go_num, by rw [HN1.out], by rw [HN1.out]; exact HO9, HB9⟩
            case measure => simp [intOf]; omega
        · have HN : Box ((enc (exr L Y (i + 1))).length = R0.length + 1 + 1 ∧ rcs (enc (exr L Y (i + 1))) = rcs R0 ++ [Value.int .i64 (l0 : Nat), Value.int .i64 z, .int .i64 (l : Nat), .int .i64 y]) := boxed (by
            rw [HT.out, enc_add_new _ l y hl0 (by rw [hR]; simp; exact c2), hR]
            refine ⟨by simp, ?_⟩
            rw [rcs_app, rcs_app]
            simp [rcs])
          have tz : (z == y) = false := by simpa using c2
          clear hown hlast hlast0 hR hrc hn c1 c2
          generalize R0.length = m at *
          have hwm : IntKind.i64.wrap ((m : Int) + 1 - 1) = (m : Int) := by rw [IntKind.wrap_i64]; omega
          have t0 : decide ((0 : Int) < (m : Int) + 1) = true := decide_eq_true (by omega)
          go_wp2_with fail
          go_quiet (fail)
          clear hun
          have HB7 : Box (Below w.heap.size w (wr.drewN nq)) := boxed (HB.out.trans (bel_drewN _ _ _))
          have hown7 : (wr.drewN nq).ownsRow _ _ _ _ _ _ := HO.out
          have hci7 : (wr.drewN nq).cell? _ = _ := hci0
          have hci8 : (wr.drewN nq).cell? _ = _ := hci1
          have hz7 : w.heap.size ≤ (wr.drewN nq).heap.size := HB7.out.size
          generalize wr.drewN nq = w7 at *
          go_wp2_with (at_builtin; refine wpList_append_own _ rfl _ _ 35 rfl w.heap.size 58 i0 _ 2 16 Try.underlying35 hi hi0 hi1 hi2 rfl (by decide) _ _ _ rfl (hown7.alloc _) ⟨w7.heap.size, 0, none⟩ 1 1 [.int .i64 (l : Nat), .int .i64 y] rfl rfl ?c1 ?c2 ?c3 ?c4 ?c5 ?_)
          case c1 =>
            intro j u hj
            match j, hj with
            | 0, hj => simp at hj; subst hj; simp [Addr.add]
            | 1, hj => simp at hj; subst hj; simp [Addr.add]
          case c2 => intro u hu; simp at hu; rcases hu with rfl | rfl <;> rfl
          case c3 => unfold maxLen; omega
          case c4 => omega
          case c5 => simp; omega
          intro v' w6 hown6 hgrow6 _
          have HB6 : Box (Below w.heap.size w w6) := boxed ((HB7.out.alloc hz7 _).grown hgrow6 (by simp; omega) (fun r e => (owns_ge hown7 r e)))
          have HO6 : Box (w6.ownsRow w.heap.size 58 2 v' (enc (exr L Y (i + 1))).length (rcs (enc (exr L Y (i + 1))))) := boxed (by rw [HN.out.1, HN.out.2]; exact hown6)
          obtain ⟨ao6, cp6, rfl⟩ : ∃ ao6 cp6, v' = .slice ao6 (enc (exr L Y (i + 1))).length cp6 := by
            rcases ownsRow_forms HO6.out with ⟨g1, g2⟩ | ⟨g, cap, g1⟩
            · exact ⟨none, 0, by rw [g2]; exact g1⟩
            · exact ⟨_, _, g1⟩
          clear hown6 hgrow6 hown7 HN HB7
          go_wp2_with fail
          go_roundw
          case rel => exact ⟨i + 1, ao6, cp6, by omega, by go_num, rfl, HO6, HB6⟩
          case measure => simp [intOf]; omega
    · obtain rfl : i = n := by omega
      go_wp2_with fail
      go_ret
      exact ⟨_, rfl, HO.out, HB.out⟩
theorem exr_front (L Y : Nat → Int) (m : Nat) : exr L Y (m + 1) = List.replicate (L 0).toNat (Y 0) ++ exr (fun i => L (i + 1)) (fun i => Y (i + 1)) m := by
  induction m with
  | zero => simp [exr]
  | succ m ih =>
    rw [exr, ih, List.append_assoc]
    rfl
theorem exs_exr (L Y : Nat → Int) (m : Nat) : exs L Y m = exr L Y m := by
  induction m generalizing L Y with
  | zero => rfl
  | succ m ih => rw [exs, ih, exr_front]
theorem enc_inj {s t : List Int} (h : enc s = enc t) : s = t := by rw [← flat_enc s, h, flat_enc]
theorem enc_ok2 {s : List Int} (hl : s.length ≤ 9223372036854775807) (hs : ∀ y ∈ s, I64 y) : ∀ p ∈ enc s, p.1 ≤ 9223372036854775807 ∧ I64 p.2 := by
  intro p hp
  have h2 : ∀ (R : List (Nat × Int)) (p : Nat × Int), p ∈ R → p.1 ≤ sm R := by
    intro R p h
    induction R with
    | nil => cases h
    | cons q r ih =>
      simp only [sm]
      rcases List.mem_cons.1 h with rfl | h
      · omega
      · have := ih h; omega
  have h3 := h2 _ p hp
  rw [sm_enc] at h3
  have h4 : p.2 ∈ flat (enc s) := (mem_flat _ (can_enc s) _).2 ⟨p, hp, rfl⟩
  rw [flat_enc] at h4
  exact ⟨by omega, hs _ h4⟩
theorem exr_i64 (L Y : Nat → Int) (n k : Nat) (hk : k ≤ n) (h : ∀ i, i < n → I64 (Y i)) : ∀ y ∈ exr L Y k, I64 y := by
  induction k with
  | zero => intro y hy; simp [exr] at hy
  | succ k ih =>
    intro y hy
    simp only [exr, List.mem_append, List.mem_replicate] at hy
    rcases hy with hy | ⟨_, rfl⟩
    · exact ih (by omega) y hy
    · exact h k (by omega)
theorem open_cap {H : Type} {enc : TypeId × Value → H} {W : World} {fuel : Nat} {ao : Option Addr} {len cap : Nat} {d : DataW H} {p : List MemPlace} (h : DataW.trod enc Try.prog W 0 (fun _ => true) true fuel 35 [.slice ao len cap] = some (d, p)) : len ≤ cap := by
  rcases open_slice Try.underlying35 h with ⟨hcs, _⟩ | ⟨a, l, c, m, n, D, Pl, hcs, _, hl, hml, hm, hx, hel⟩
  · injection hcs with hcs
    injection hcs with e1 e2 e3
    omega
  · injection hcs with hcs
    injection hcs with e1 e2 e3
    omega
end Go.Proofs.Ytoodhpgaikmalaa
