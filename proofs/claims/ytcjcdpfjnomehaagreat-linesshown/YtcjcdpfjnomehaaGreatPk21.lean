/-
  What the document's New, Near, Span, Insert, Delete and Set answer.
-/
import Derived.Laws.StructEq
import Derived.Test.YtcjcdpfjnomehaaGreatPk14
import Derived.Test.YtcjcdpfjnomehaaGreatPk20
namespace Go.Proofs.YtcjcdpfjnomehaaGreat.Ru
open Go.RowKit
set_option linter.unusedSimpArgs false
set_option linter.unusedVariables false
structure RfAt (N : Nat → Prop) (w : World) (b off cap : Nat) (s : List Int) : Prop where
  ne : ∀ i, i < s.length → N b
  cap : s.length ≤ cap
  cells : ∀ i, i < s.length → w.cell? ⟨b, off + i, none⟩ = some (.int .i64 (s.getD i 0))
  ok : Sok s
  len : s.length ≤ 65536
theorem RfAt.keep {N : Nat → Prop} {w w' : World} {b off cap : Nat} {s : List Int} (h : RfAt N w b off cap s) (k : Kp N N w w') : RfAt N w' b off cap s :=
  ⟨h.ne, h.cap, fun i hi => (k _ _ _ (h.ne i hi) (h.cells i hi)).2, h.ok, h.len⟩
theorem RfAt.below {N : Nat → Prop} {w w' : World} {b off cap : Nat} {s : List Int} (h : RfAt N w b off cap s) (hb : Below w.heap.size w w') : RfAt N w' b off cap s := h.keep (kp_below hb)
theorem RfAt.other {N : Nat → Prop} {rb : Nat} {w w' : World} {b off cap : Nat} {s : List Int} (h : RfAt N w b off cap s) (hb : ∀ i, i < s.length → b ≠ rb) (hg : w.grownBy w' (some rb)) : RfAt N w' b off cap s :=
  ⟨h.ne, h.cap, fun i hi => hg.cell (h.cells i hi) (fun e => by injection e with e; exact hb i hi e), h.ok, h.len⟩
theorem put2_all {w : World} {rb : Nat} {x y v0 v1 : Value} {t : TypeId} (h : w.heap[rb]? = some (.cells #[x, y] t (0, 0))) :
    ((w.setCell ⟨rb, 0, none⟩ v0).setCell ⟨rb, 1, none⟩ v1).cell? ⟨rb, 0, none⟩ = some v0 ∧ ((w.setCell ⟨rb, 0, none⟩ v0).setCell ⟨rb, 1, none⟩ v1).cell? ⟨rb, 1, none⟩ = some v1 ∧ w.grownBy ((w.setCell ⟨rb, 0, none⟩ v0).setCell ⟨rb, 1, none⟩ v1) (some rb) := by
  have h2 := set1_heap (v := v1) (set0_heap (v := v0) h)
  exact ⟨by simp [World.cell?, h2], by simp [World.cell?, h2], grown_trans (grown_set _ _ _ _) (grown_set _ _ _ _)⟩
theorem box_facts {w1 : World} {rb : Nat} {x y : Value} {t : TypeId} (hr1 : w1.heap[rb]? = some (.cells #[x, y] t (0, 0))) : w1.cell? ⟨rb, 0, none⟩ = some x ∧ w1.cell? ⟨rb, 1, none⟩ = some y ∧ w1.frozen? ⟨rb, 0, none⟩ = false ∧ w1.frozen? ⟨rb, 1, none⟩ = false :=
  ⟨by simp [World.cell?, hr1], by simp [World.cell?, hr1], by unfold World.frozen?; rw [hr1]; simp, by unfold World.frozen?; rw [hr1]; simp⟩
section
variable {N : Nat → Prop} {w : World} {b off cap : Nat} {s : List Int} {base : Int}
end
end Go.Proofs.YtcjcdpfjnomehaaGreat.Ru

/-
  What the document's Runs and Same answer.
-/
namespace Go.Proofs.YtcjcdpfjnomehaaGreat.Ru
open Go.RowKit
set_option linter.unusedSimpArgs false
set_option linter.unusedVariables false
def RunsIn (w : World) (ao : Option Addr) (R : List (Nat × Int)) : Prop := P2At (fun _ => True) w ao R.length (fun i => ((R.getD i (0, 0)).1 : Nat)) (fun i => Ys R i)
theorem own_runs {w : World} {B : Nat} {ao : Option Addr} {cap n : Nat} {R : List (Nat × Int)} (h : w.ownsRow B 61 2 (.slice ao n cap) R.length (rcs R)) (hn : n = R.length) (hl : ∀ p ∈ R, p.1 ≤ 9223372036854775807 ∧ I64 p.2) : P2At (fun b => B ≤ b) w ao R.length (fun i => ((R.getD i (0, 0)).1 : Nat)) (fun i => Ys R i) := by
  subst hn
  intro i hi
  obtain ⟨g, cap', e⟩ := ownsRow_form h (by omega)
  injection e with e1 e2 e3
  subst e1; subst e3
  obtain ⟨p1, p2⟩ := rcs_get R i hi
  have hb := h.lt g rfl
  have hm : R.getD i (0, 0) ∈ R := by simp [List.getD, hi]
  have hp := hl _ hm
  refine ⟨⟨⟨?_, ?_⟩, hp.2⟩, g, 0, rfl, hb.1, ?_, ?_⟩
  · show (_ : Int) ≤ (((R.getD i (0, 0)).1 : Nat) : Int); omega
  · show (((R.getD i (0, 0)).1 : Nat) : Int) ≤ _; omega
  · rw [Nat.zero_add, h.cellAt (i * 2) (by omega), p1]
  · rw [Nat.zero_add, h.cellAt (i * 2 + 1) (by omega), p2]
theorem enc_ok {s : List Int} (hs : Sok s) (hl : s.length ≤ 8589934592) : ∀ p ∈ enc s, p.1 ≤ 9223372036854775807 ∧ I64 p.2 := by
  intro p hp
  obtain ⟨i, hi, e⟩ := List.getElem_of_mem hp
  have h1 : sm (enc s) = s.length := sm_enc s
  have h2 : ∀ (R : List (Nat × Int)), p ∈ R → p.1 ≤ sm R := by
    intro R
    induction R with
    | nil => intro h; cases h
    | cons q r ih =>
      intro h
      simp only [sm]
      rcases List.mem_cons.1 h with rfl | h
      · omega
      · have := ih h; omega
  have h3 := h2 _ hp
  have h4 : p.2 ∈ s := by
    have := Ys_in s i hi
    have e2 : Ys (enc s) i = p.2 := by simp [Ys, List.getD, hi, e]
    rwa [e2] at this
  have := hs _ h4
  exact ⟨by omega, by omega, by omega⟩
theorem guardR : Tryz.prog.eqGuardType Tryz.prog.depth 61 = false := by kernel_rfl
theorem eqRun (a b d e : Int) (w : World) : (Op.equalIn 10000 61 (.agg #[.int .i64 a, .int .i64 b]) (.agg #[.int .i64 d, .int .i64 e])).run Tryz.prog w = .ok (a == d && b == e) w := by
  have u3 := Tryz.underlying3
  have hS : Tryz.prog.underlying 61 = some (.struct (Tryz.prog.fieldsOf 61)) := by kernel_rfl
  have hp : Tryz.prog.stoodInHeld 61 = false := by kernel_rfl
  rw [show (10000 : Nat) = 9999 + 1 from rfl, run_equalIn_agg w 9999 61 _ _ hS hp]
  simp only [Program.fieldsOf, Tryz.underlying61]
  go_simp
  by_cases h1 : a = d <;> by_cases h2 : b = e <;> simp [h1, h2]
theorem neqRun (a b d e : Int) (w : World) : (binOp .neq 61 (.agg #[.int .i64 a, .int .i64 b]) (.agg #[.int .i64 d, .int .i64 e])).run Tryz.prog w = .ok (.bool (!(a == d && b == e))) w := by
  rw [run_neq_struct, eqRun]
  rfl
theorem guardRun (op : BinOp) (x y : Operand) (xs ys : Array Value) (w : World) : (eqGuard op 61 x y (.agg xs) (.agg ys)).run Tryz.prog w = .ok () w := run_eqGuard_agg w op 61 x y xs ys guardR
set_option maxRecDepth 100000 in
set_option maxHeartbeats 4000000 in
theorem rsame_any (A B : Nat → Prop) (w : World) (ao bo : Option Addr) (na nb ca cb : Nat) (L1 Y1 L2 Y2 : Nat → Int) (h1 : P2At A w ao na L1 Y1) (h2 : P2At B w bo nb L2 Y2) (hn : na ≤ 1048576) : Calls Tryz.prog 27 #[.slice ao na ca, .slice bo nb cb] w fun e w' => ∃ r, e = .returned (.bool r) ∧ (r = true ↔ na = nb ∧ ∀ i, i < na → L1 i = L2 i ∧ Y1 i = Y2 i) ∧ Below w.heap.size w w' := by
  have H1 := boxed h1
  have H2 := boxed h2
  clear h1 h2
  by_cases c : na = nb
  · subst c
    go_enter Tryz.func27, Tryz.ntmps27
    go_wp2_with fail
    go_loopw [5] (fun vi wr => ∃ i : Nat, i ≤ na ∧ vi = .int .i64 (i : Nat) ∧ Box (∀ j, j < i → L1 j = L2 j ∧ Y1 j = Y2 j) ∧ Box (Below w.heap.size w wr)) (fun vi _ => na - (intOf vi).toNat)
    case atStart => exact ⟨0, Nat.zero_le _, rfl, boxed (fun j hj => by omega), boxed (Below.refl _ _)⟩
    case round =>
      obtain ⟨i, hi, rfl, HS, HB⟩ := hrel
      by_cases hlt : i < na
      · obtain ⟨b1, o1, rfl, -⟩ := H1.out.form (by omega)
        obtain ⟨b2, o2, rfl, -⟩ := H2.out.form (by omega)
        obtain ⟨p0, p1⟩ := (H1.out.below HB.out).get i hlt
        obtain ⟨q0, q1⟩ := (H2.out.below HB.out).get i hlt
        have hgd := guardRun
        have hne := fun w => neqRun (L1 i) (Y1 i) (L2 i) (Y2 i) w
        by_cases ce : L1 i = L2 i ∧ Y1 i = Y2 i
        · have te : (!(L1 i == L2 i && Y1 i == Y2 i)) = false := by simp [ce.1, ce.2]
          simp only [te] at hne
          have HS2 : Box (∀ j, j < i + 1 → L1 j = L2 j ∧ Y1 j = Y2 j) := boxed (fun j hj => by
            by_cases d : j = i
            · subst d; exact ce
            · exact HS.out j (by omega))
          clear ce te HS
          generalize L1 i = l1 at *
          generalize Y1 i = y1 at *
          generalize L2 i = l2 at *
          generalize Y2 i = y2 at *
          go_wp2_with fail
          go_quiet (fail)
          go_wp2_with fail
          go_roundw
          case rel => exact ⟨i + 1, by omega, by go_num, HS2, boxed (HB.out.trans (bel_drewN _ _ _))⟩
          case measure => simp [intOf]; omega
        · have te : (!(L1 i == L2 i && Y1 i == Y2 i)) = true := by
            by_cases c1 : L1 i = L2 i
            · have c2 : Y1 i ≠ Y2 i := fun e => ce ⟨c1, e⟩
              simp [c2]
            · simp [c1]
          simp only [te] at hne
          have HS2 : Box (¬ ∀ j, j < na → L1 j = L2 j ∧ Y1 j = Y2 j) := boxed (fun hh => ce (hh i hlt))
          clear ce te HS
          generalize L1 i = l1 at *
          generalize Y1 i = y1 at *
          generalize L2 i = l2 at *
          generalize Y2 i = y2 at *
          go_wp2_with fail
          go_quiet (fail)
          go_wp2_with fail
          go_ret
          exact ⟨false, rfl, ⟨(fun h => by cases h), (fun h => absurd h.2 HS2.out)⟩, HB.out.trans (bel_drewN _ _ _)⟩
      · obtain rfl : i = na := by omega
        go_wp2_with fail
        go_ret
        exact ⟨true, rfl, ⟨fun _ => ⟨by first | rfl | trivial, HS.out⟩, fun _ => rfl⟩, HB.out⟩
  · have t : ((na : Int) == (nb : Int)) = false := by rw [beq_eq_false_iff_ne]; omega
    have c' := boxed c
    clear c
    go_enter Tryz.func27, Tryz.ntmps27
    go_wp2
    go_ret
    exact ⟨false, rfl, by simp [c'.out], Below.refl _ _⟩
theorem same_lists (R Q : List (Nat × Int)) : (R.length = Q.length ∧ ∀ i, i < R.length → (((R.getD i (0, 0)).1 : Nat) : Int) = (((Q.getD i (0, 0)).1 : Nat) : Int) ∧ Ys R i = Ys Q i) ↔ R = Q := by
  constructor
  · rintro ⟨h1, h2⟩
    apply List.ext_getElem h1
    intro i hi hj
    obtain ⟨k1, k2⟩ := h2 i hi
    unfold Ys at k2
    have e1 : R.getD i (0, 0) = R[i] := by simp [List.getD, hi]
    have e2 : Q.getD i (0, 0) = Q[i] := by simp [List.getD, hj]
    rw [e1, e2] at k1 k2
    exact Prod.ext (by omega) k2
  · rintro rfl
    exact ⟨rfl, fun i _ => ⟨rfl, rfl⟩⟩
end Go.Proofs.YtcjcdpfjnomehaaGreat.Ru

/-
  What the program's underway does.
-/
namespace Go.Proofs.YtcjcdpfjnomehaaGreat.Ru
open Go.RowKit
set_option linter.unusedSimpArgs false
set_option linter.unusedVariables false
def exs : (Nat → Int) → (Nat → Int) → Nat → List Int
  | _, _, 0 => []
  | L, Y, m + 1 => List.replicate (L 0).toNat (Y 0) ++ exs (fun i => L (i + 1)) (fun i => Y (i + 1)) m
def bk2 (off cap : Nat) : Nat := if cap = 1 then off else off + 2
theorem sl_tail (b off m cap : Nat) (wx : World) : (Instr.slice 23 (.slice (some ⟨b, off, none⟩) (m + 1) cap) (some (.int .i64 1)) none none).run Tryz.prog wx = .ok (.slice (some ⟨b, bk2 off cap, none⟩) m (cap - 1)) wx := by
  have hc : Tryz.prog.cellsOf 61 = 2 := by kernel_rfl
  simp [Instr.slice, Instr.sliceBounds, Instr.sliceBound, asIntOf, run_underlying Tryz.underlying23, go_sem]
  unfold bk2
  rw [if_pos (by omega : (1 : Int) ≤ (m : Int) + 1)]
  simp
  split <;> rfl
theorem P2At.tail {S : Nat → Prop} {w : World} {b off m cap : Nat} {L Y : Nat → Int} (h : P2At S w (some ⟨b, off, none⟩) (m + 1) L Y) (hc : m + 1 ≤ cap) : P2At S w (some ⟨b, bk2 off cap, none⟩) m (fun i => L (i + 1)) (fun i => Y (i + 1)) := by
  intro i hi
  obtain ⟨h1, b', off', e, h2, c0, c1⟩ := h (i + 1) (by omega)
  injection e with e
  injection e with e1 e2 e3
  subst e1; subst e2
  have eo : bk2 off cap = off + 2 := if_neg (by omega)
  rw [eo]
  refine ⟨h1, b, off + 2, rfl, h2, ?_, ?_⟩
  · rw [show off + 2 + i * 2 = off + (i + 1) * 2 from by omega]; exact c0
  · rw [show off + 2 + i * 2 + 1 = off + (i + 1) * 2 + 1 from by omega]; exact c1
theorem keep2 {W : World} {q b off i j : Nat} {x : Value} (h : q ≠ b) (hc : W.cell? ⟨b, off, none⟩ = some x) (u v : Value) : ((W.setCell ⟨q, i, none⟩ u).setCell ⟨q, j, none⟩ v).cell? ⟨b, off, none⟩ = some x := by
  rw [World.cell?_setCell_far _ _ _ _ (show q ≠ b from h), World.cell?_setCell_far _ _ _ _ (show q ≠ b from h)]; exact hc
def pz (l : Int) : Nat := if 0 < l then 1 else 0
theorem pz_le (l : Int) : pz l ≤ 1 := by unfold pz; split <;> omega
structure UwI (S : Nat → Prop) (w : World) (D : List Int) (m : Nat) (wr : World) (l y : Int) (ao : Option Addr) (k cap : Nat) (L Y : Nat → Int) : Prop where
  lf : wr.heap[w.heap.size]? = some (.cells #[.int .i64 l, .int .i64 y] 61 (0, 0))
  rs : wr.heap[w.heap.size + 1]? = some (.cells #[.int .i64 0, .int .i64 0] 61 (0, 0))
  at_ : P2At (fun b => S b ∧ b < w.heap.size) wr ao k L Y
  cap : k ≤ cap
  le : 2 * k + pz l ≤ m
  i64 : I64 l ∧ I64 y
  den : List.replicate l.toNat y ++ exs L Y k = D
  bel : Below w.heap.size w wr
theorem UwI.drew {S : Nat → Prop} {w : World} {D : List Int} {m : Nat} {wr : World} {l y : Int} {ao : Option Addr} {k cap : Nat} {L Y : Nat → Int} (h : UwI S w D m wr l y ao k cap L Y) : UwI S w D m wr.drew l y ao k cap L Y :=
  ⟨h.lf, h.rs, h.at_.below (Below.refl _ _).drew, h.cap, h.le, h.i64, h.den, h.bel.drew⟩
theorem UwI.step {S : Nat → Prop} {w : World} {D : List Int} {m : Nat} {wr : World} {l y : Int} {b off : Nat} {k cap : Nat} {L Y : Nat → Int} (h : UwI S w D m wr l y (some ⟨b, off, none⟩) (k + 1) cap L Y) (hl : l ≤ 0) :
    UwI S w D m ((wr.setCell ⟨w.heap.size, 0, none⟩ (.int .i64 (L 0))).setCell ⟨w.heap.size, 1, none⟩ (.int .i64 (Y 0))) (L 0) (Y 0) (some ⟨b, bk2 off cap, none⟩) k (cap - 1) (fun i => L (i + 1)) (fun i => Y (i + 1)) := by
  have hd := h.den
  have hc := h.cap
  have hle := h.le
  have hpz := pz_le (L 0)
  refine ⟨set1_heap (set0_heap h.lf), ?_, ?_, by omega, by omega, (h.at_ 0 (by omega)).1, ?_, ?_⟩
  · rw [heap_setCell_other _ _ _ _ (by simp), heap_setCell_other _ _ _ _ (by simp)]; exact h.rs
  · refine (h.at_.tail h.cap).keep (fun b i u hs hc => ⟨hs, ?_⟩)
    rw [World.cell?_setCell_far _ _ _ _ (by show w.heap.size ≠ b; have := hs.2; omega), World.cell?_setCell_far _ _ _ _ (by show w.heap.size ≠ b; have := hs.2; omega)]
    exact hc
  · rw [← hd, show l.toNat = 0 from by omega]; simp [exs]
  · exact (h.bel.setCell (p := ⟨w.heap.size, 0, none⟩) (Nat.le_refl _) _).setCell (p := ⟨w.heap.size, 1, none⟩) (Nat.le_refl _) _
def UwP (S : Nat → Prop) (w : World) (D : List Int) (m : Nat) (e : Ending) (w' : World) : Prop :=
  ∃ l' y' ao' m' cap' L' Y', e = .returned (.tuple #[.agg #[.int .i64 l', .int .i64 y'], .slice ao' m' cap']) ∧ P2At S w' ao' m' L' Y' ∧ m' ≤ cap' ∧ 2 * m' + pz l' ≤ m ∧ (I64 l' ∧ I64 y') ∧
      List.replicate l'.toNat y' ++ exs L' Y' m' = D ∧ (0 < l' ∨ (l' ≤ 0 ∧ m' = 0)) ∧ Below w.heap.size w w'
theorem UwI.done {S : Nat → Prop} {w : World} {D : List Int} {m : Nat} {wr : World} {l y : Int} {ao : Option Addr} {k cap : Nat} {L Y : Nat → Int} (h : UwI S w D m wr l y ao k cap L Y) (hd : 0 < l ∨ (l ≤ 0 ∧ k = 0)) :
    UwP S w D m (.returned (.tuple #[.agg #[.int .i64 l, .int .i64 y], .slice ao k cap])) ((wr.setCell ⟨w.heap.size + 1, 0, none⟩ (.int .i64 l)).setCell ⟨w.heap.size + 1, 1, none⟩ (.int .i64 y)) := by
  have hg := (put2_all (v0 := .int .i64 l) (v1 := .int .i64 y) h.rs).2.2
  exact ⟨l, y, ao, k, cap, L, Y, rfl, h.at_.keep (fun b i u hs hc => ⟨hs.1, hg.cell hc (fun e => by injection e with e; dsimp only at e; have := hs.2; omega)⟩), h.cap, h.le, h.i64, h.den, hd, h.bel.trans (grown_below hg (by omega) h.bel.size)⟩
set_option maxRecDepth 100000 in
set_option maxHeartbeats 2000000 in
theorem underway_any (S : Nat → Prop) (w : World) (l y : Int) (ao : Option Addr) (m cap : Nat) (L Y : Nat → Int) (h : P2At S w ao m L Y) (hc : m ≤ cap) (hl : I64 l ∧ I64 y) :
    Calls Tryz.prog 124 #[.agg #[.int .i64 l, .int .i64 y], .slice ao m cap] w fun e w' => UwP S w (List.replicate l.toNat y ++ exs L Y m) (2 * m + pz l) e w' := by
  obtain ⟨M, hM⟩ : ∃ M, 2 * m + pz l = M := ⟨_, rfl⟩
  rw [hM]
  obtain ⟨D, hD⟩ : ∃ D, List.replicate l.toNat y ++ exs L Y m = D := ⟨_, rfl⟩
  rw [hD]
  have H0 : Box (UwI S w D M ((w.alloc (.cells #[.int .i64 l, .int .i64 y] 61)).alloc (.cells #[.int .i64 0, .int .i64 0] 61)) l y ao m cap L Y) := boxed (by
    have hb : Below w.heap.size w ((w.alloc (.cells #[.int .i64 l, .int .i64 y] 61)).alloc (.cells #[.int .i64 0, .int .i64 0] 61)) := below_two w _ _
    refine ⟨?_, ?_, h.keep (fun b i u hs hc => ⟨⟨hs, World.block_lt_of_cell? w ⟨b, i, none⟩ hc⟩, hold hb hc⟩), hc, by rw [hM]; exact Nat.le_refl _, hl, hD, hb⟩
    · rw [Below.heap_alloc _ _ _ (by simp)]; exact heap_alloc_new w _
    · have := heap_alloc_new (w.alloc (.cells #[.int .i64 l, .int .i64 y] 61)) (.cells #[.int .i64 0, .int .i64 0] 61)
      rwa [World.size_alloc] at this)
  clear h hD
  go_enter Tryz.func124, Tryz.ntmps124
  go_wp2_with fail
  go_loopw [1] (fun va wr => ∃ (l' y' : Int) (ao' : Option Addr) (k' cap' : Nat) (L' Y' : Nat → Int), va = .slice ao' k' cap' ∧ Box (UwI S w D M wr l' y' ao' k' cap' L' Y')) (fun va _ => match va with | .slice _ k _ => k | _ => 0)
  case atStart => exact ⟨l, y, ao, m, cap, L, Y, rfl, H0⟩
  case round =>
    obtain ⟨l', y', ao', k', cap', L', Y', rfl, HI⟩ := hrel
    obtain ⟨f0, f1, f2, f3⟩ := box_facts HI.out.lf
    obtain ⟨r0, r1, r2, r3⟩ := box_facts HI.out.rs
    by_cases c1 : 0 < l'
    · have z1 : decide (l' ≤ 0) = false := decide_eq_false (by omega)
      have HE := boxed (HI.out.done (.inl c1))
      have HP := put2_all (v0 := .int .i64 l') (v1 := .int .i64 y') HI.out.rs
      go_wp2_with fail
      refine bodyPost_ret (v := .tuple #[.agg #[.int .i64 l', .int .i64 y'], .slice ao' k' cap']) (by simp [results, Tryz.results124, go_sem, HP.1, HP.2.1]) rfl HE.out
    · have z1 : decide (l' ≤ 0) = true := decide_eq_true (by omega)
      by_cases c2 : k' = 0
      · subst c2
        have HE := boxed (HI.out.done (.inr ⟨by omega, rfl⟩))
        have HP := put2_all (v0 := .int .i64 l') (v1 := .int .i64 y') HI.out.rs
        go_wp2_with fail
        refine bodyPost_ret (v := .tuple #[.agg #[.int .i64 l', .int .i64 y'], .slice ao' 0 cap']) (by simp [results, Tryz.results124, go_sem, HP.1, HP.2.1]) rfl HE.out
      · obtain ⟨k, rfl⟩ : ∃ k, k' = k + 1 := ⟨k' - 1, by omega⟩
        obtain ⟨b, off, rfl, -⟩ := HI.out.at_.form (by omega)
        obtain ⟨e0, e1⟩ := HI.out.at_.get 0 (by omega)
        rw [Nat.zero_mul, Nat.add_zero] at e0 e1
        have hst := sl_tail b off k cap'
        have HS := boxed (HI.out.step (by omega)).drew
        have z2 : decide ((0 : Int) < ((k + 1 : Nat) : Int)) = true := decide_eq_true (by omega)
        go_wp2_with fail
        have hbw : w.heap.size ≠ b := by
          obtain ⟨-, b', off', e, hs, -⟩ := HI.out.at_ 0 (by omega)
          have : b = b' := congrArg Addr.block (Option.some.inj e)
          have := hs.2
          omega
        have HX : Box (wr.drew.cell? ⟨b, off, none⟩ = some (.int .i64 (L' 0)) ∧ wr.drew.cell? ⟨b, off + 1, none⟩ = some (.int .i64 (Y' 0))) := boxed ⟨e0, e1⟩
        have HXS : Box (∀ u v, ((wr.setCell ⟨w.heap.size, 0, none⟩ u).setCell ⟨w.heap.size, 1, none⟩ v).drew.cell? ⟨b, off, none⟩ = some (.int .i64 (L' 0)) ∧ ((wr.setCell ⟨w.heap.size, 0, none⟩ u).setCell ⟨w.heap.size, 1, none⟩ v).drew.cell? ⟨b, off + 1, none⟩ = some (.int .i64 (Y' 0))) := boxed (fun u v => ⟨keep2 hbw e0 u v, keep2 hbw e1 u v⟩)
        have g0 : wr.drew.cell? _ = _ := f0
        have g1 : wr.drew.cell? _ = _ := f1
        have g2 : wr.drew.frozen? _ = _ := f2
        have g3 : wr.drew.frozen? _ = _ := f3
        clear e0 e1
        generalize L' 0 = l0 at *
        generalize Y' 0 = y0 at *
        go_region_held3 (fun W' => W'.cell? ⟨b, off, none⟩ = some (.int .i64 l0) ∧ W'.cell? ⟨b, off + 1, none⟩ = some (.int .i64 y0))
          (first | with_reducible exact HX.out | with_reducible exact HXS.out _ _)
          (fail)
        go_wp2_with fail
        go_roundw
        case rel => exact ⟨_, _, _, _, _, _, _, rfl, HS⟩
        case measure => simp
end Go.Proofs.YtcjcdpfjnomehaaGreat.Ru

/-
  What the program's Same does: the same styles of as many bytes.
-/
namespace Go.Proofs.YtcjcdpfjnomehaaGreat.Ru
open Go.RowKit
set_option linter.unusedSimpArgs false
set_option linter.unusedVariables false
structure Side where
  l : Int
  y : Int
  ao : Option Addr
  m : Nat
  cap : Nat
  L : Nat → Int
  Y : Nat → Int
def Side.den (z : Side) : List Int := List.replicate z.l.toNat z.y ++ exs z.L z.Y z.m
def Side.mu (z : Side) : Nat := 2 * z.m + pz z.l
structure SdAt (n₀ : Nat) (W : World) (q : Nat) (z : Side) : Prop where
  bx : W.heap[q]? = some (.cells #[.int .i64 z.l, .int .i64 z.y] 61 (0, 0))
  at_ : P2At (· < n₀) W z.ao z.m z.L z.Y
  cap : z.m ≤ z.cap
  i64 : I64 z.l ∧ I64 z.y
theorem SdAt.below {n₀ : Nat} {W W' : World} {q : Nat} {z : Side} (h : SdAt n₀ W q z) (hb : Below W.heap.size W W') : SdAt n₀ W' q z :=
  ⟨by rw [hb.block _ (Array.getElem?_eq_some_iff.1 h.bx).1]; exact h.bx, h.at_.below hb, h.cap, h.i64⟩
theorem SdAt.other {n₀ : Nat} {W W' : World} {q r : Nat} {z : Side} (h : SdAt n₀ W q z) (hg : W.grownBy W' (some r)) (hr : n₀ ≤ r) (hne : q ≠ r) : SdAt n₀ W' q z :=
  ⟨by rw [hg.block _ (Array.getElem?_eq_some_iff.1 h.bx).1 (fun e => by injection e; omega)]; exact h.bx, h.at_.keep (fun b i u hs hc => ⟨hs, hg.cell hc (fun e => by injection e with e; dsimp only at e; omega)⟩), h.cap, h.i64⟩
theorem SdAt.put {n₀ : Nat} {W : World} {q : Nat} {x0 x1 : Value} (hb : W.heap[q]? = some (.cells #[x0, x1] 61 (0, 0))) (z : Side) (h : P2At (· < n₀) W z.ao z.m z.L z.Y) (hc : z.m ≤ z.cap) (hi : I64 z.l ∧ I64 z.y) (hq : n₀ ≤ q) :
    SdAt n₀ ((W.setCell ⟨q, 0, none⟩ (.int .i64 z.l)).setCell ⟨q, 1, none⟩ (.int .i64 z.y)) q z := by
  have hg := (put2_all (v0 := .int .i64 z.l) (v1 := .int .i64 z.y) hb).2.2
  exact ⟨set1_heap (set0_heap hb), h.keep (fun b i u hs hc => ⟨hs, hg.cell hc (fun e => by injection e with e; dsimp only at e; omega)⟩), hc, hi⟩
structure SmI (w : World) (D1 D2 : List Int) (W : World) (z1 z2 : Side) : Prop where
  s1 : SdAt w.heap.size W w.heap.size z1
  s2 : SdAt w.heap.size W (w.heap.size + 1) z2
  eq : z1.den = z2.den ↔ D1 = D2
  bel : Below w.heap.size w W
theorem SmI.below {w : World} {D1 D2 : List Int} {W W' : World} {z1 z2 : Side} (h : SmI w D1 D2 W z1 z2) (hb : Below W.heap.size W W') : SmI w D1 D2 W' z1 z2 :=
  ⟨h.s1.below hb, h.s2.below hb, h.eq, h.bel.trans (hb.mono h.bel.size)⟩
theorem SmI.one {w : World} {D1 D2 : List Int} {W : World} {z1 z2 z : Side} (h : SmI w D1 D2 W z1 z2) (ha : P2At (· < w.heap.size) W z.ao z.m z.L z.Y) (hc : z.m ≤ z.cap) (hi : I64 z.l ∧ I64 z.y) (hd : z.den = z2.den ↔ z1.den = z2.den) :
    SmI w D1 D2 ((W.setCell ⟨w.heap.size, 0, none⟩ (.int .i64 z.l)).setCell ⟨w.heap.size, 1, none⟩ (.int .i64 z.y)) z z2 := by
  have hg := (put2_all (v0 := .int .i64 z.l) (v1 := .int .i64 z.y) h.s1.bx).2.2
  exact ⟨SdAt.put h.s1.bx z ha hc hi (Nat.le_refl _), h.s2.other hg (Nat.le_refl _) (by omega), hd.trans h.eq, h.bel.trans (grown_below hg (Nat.le_refl _) h.bel.size)⟩
theorem SmI.two {w : World} {D1 D2 : List Int} {W : World} {z1 z2 z : Side} (h : SmI w D1 D2 W z1 z2) (ha : P2At (· < w.heap.size) W z.ao z.m z.L z.Y) (hc : z.m ≤ z.cap) (hi : I64 z.l ∧ I64 z.y) (hd : z1.den = z.den ↔ z1.den = z2.den) :
    SmI w D1 D2 ((W.setCell ⟨w.heap.size + 1, 0, none⟩ (.int .i64 z.l)).setCell ⟨w.heap.size + 1, 1, none⟩ (.int .i64 z.y)) z1 z := by
  have hg := (put2_all (v0 := .int .i64 z.l) (v1 := .int .i64 z.y) h.s2.bx).2.2
  exact ⟨h.s1.other hg (by omega) (by omega), SdAt.put h.s2.bx z ha hc hi (by omega), hd.trans h.eq, h.bel.trans (grown_below hg (by omega) h.bel.size)⟩
theorem i64_zero : I64 0 := ⟨by omega, by omega⟩
def rdL (W : World) (q : Nat) : Int := match W.cell? ⟨q, 0, none⟩ with | some (.int _ v) => v | _ => 0
def smu (w : World) (va vb : Value) (W : World) : Nat := (match va with | .slice _ k _ => 2 * k | _ => 0) + (match vb with | .slice _ k _ => 2 * k | _ => 0) + pz (rdL W w.heap.size) + pz (rdL W (w.heap.size + 1))
theorem smu_eq {w : World} {D1 D2 : List Int} {W : World} {z1 z2 : Side} (h : SmI w D1 D2 W z1 z2) : smu w (.slice z1.ao z1.m z1.cap) (.slice z2.ao z2.m z2.cap) W = 2 * z1.m + pz z1.l + (2 * z2.m + pz z2.l) := by
  unfold smu rdL
  rw [(box_facts h.s1.bx).1, (box_facts h.s2.bx).1]
  simp only
  omega
theorem SmI.cut {w : World} {D1 D2 : List Int} {W : World} {z1 z2 : Side} (h : SmI w D1 D2 W z1 z2) (n : Int) (hn : n ≤ z1.l ∧ n ≤ z2.l ∧ 0 ≤ n) (hy : z1.y = z2.y) :
    SmI w D1 D2 ((W.setCell ⟨w.heap.size, 0, none⟩ (.int .i64 (z1.l - n))).setCell ⟨w.heap.size + 1, 0, none⟩ (.int .i64 (z2.l - n))) { z1 with l := z1.l - n } { z2 with l := z2.l - n } := by
  have g1 : W.grownBy (W.setCell ⟨w.heap.size, 0, none⟩ (.int .i64 (z1.l - n))) (some w.heap.size) := grown_set _ _ _ _
  have g2 := grown_set (W.setCell ⟨w.heap.size, 0, none⟩ (.int .i64 (z1.l - n))) (w.heap.size + 1) 0 (.int .i64 (z2.l - n))
  have a1 := h.s1.i64
  have a2 := h.s2.i64
  have s1' : SdAt w.heap.size (W.setCell ⟨w.heap.size, 0, none⟩ (.int .i64 (z1.l - n))) w.heap.size { z1 with l := z1.l - n } :=
    ⟨set0_heap h.s1.bx, h.s1.at_.keep (fun b i u hs hc => ⟨hs, g1.cell hc (fun e => by injection e with e; dsimp only at e; omega)⟩), h.s1.cap, ⟨by have := a1.1.1; have := a1.1.2; show _ ≤ z1.l - n; omega, by have := a1.1.2; show z1.l - n ≤ _; omega⟩, a1.2⟩
  have s2' := h.s2.other g1 (Nat.le_refl _) (by omega)
  have hd : ({ z1 with l := z1.l - n } : Side).den = ({ z2 with l := z2.l - n } : Side).den ↔ z1.den = z2.den := by
    unfold Side.den
    dsimp only
    rw [show z1.l.toNat = n.toNat + (z1.l - n).toNat from by omega, show z2.l.toNat = n.toNat + (z2.l - n).toNat from by omega, ← hy, ← List.replicate_append_replicate, ← List.replicate_append_replicate, List.append_assoc, List.append_assoc, List.append_right_inj]
  refine ⟨s1'.other g2 (by omega) (by omega), ⟨set0_heap s2'.bx, s2'.at_.keep (fun b i u hs hc => ⟨hs, g2.cell hc (fun e => by injection e with e; dsimp only at e; omega)⟩), s2'.cap, ⟨by have := a2.1.1; have := a2.1.2; show _ ≤ z2.l - n; omega, by have := a2.1.2; show z2.l - n ≤ _; omega⟩, a2.2⟩, hd.trans h.eq, ?_⟩
  exact (h.bel.setCell (p := ⟨w.heap.size, 0, none⟩) (Nat.le_refl _) _).setCell (p := ⟨w.heap.size + 1, 0, none⟩) (by show w.heap.size ≤ w.heap.size + 1; omega) _
theorem den_nil {z : Side} (h : z.l ≤ 0) (hm : z.m = 0) : z.den = [] := by unfold Side.den; rw [hm, show z.l.toNat = 0 from by omega]; rfl
theorem den_cons {z : Side} (h : 0 < z.l) : ∃ r, z.den = z.y :: r := by
  unfold Side.den
  obtain ⟨k, hk⟩ : ∃ k, z.l.toNat = k + 1 := ⟨z.l.toNat - 1, by omega⟩
  rw [hk, List.replicate_succ]
  exact ⟨_, rfl⟩
set_option maxRecDepth 100000 in
set_option maxHeartbeats 4000000 in
theorem psame_any (w : World) (ao bo : Option Addr) (m1 c1 m2 c2 : Nat) (L1 Y1 L2 Y2 : Nat → Int) (h1 : P2At (fun _ => True) w ao m1 L1 Y1) (h2 : P2At (fun _ => True) w bo m2 L2 Y2) (k1 : m1 ≤ c1) (k2 : m2 ≤ c2) :
    Calls Tryz.prog 83 #[.slice ao m1 c1, .slice bo m2 c2] w fun e w' => ∃ r, e = .returned (.bool r) ∧ (r = true ↔ exs L1 Y1 m1 = exs L2 Y2 m2) ∧ Below w.heap.size w w' := by
  have H0 : Box (SmI w (exs L1 Y1 m1) (exs L2 Y2 m2) ((w.alloc (.cells #[.int .i64 0, .int .i64 0] 61)).alloc (.cells #[.int .i64 0, .int .i64 0] 61)) ⟨0, 0, ao, m1, c1, L1, Y1⟩ ⟨0, 0, bo, m2, c2, L2, Y2⟩) := boxed (by
    have hb : Below w.heap.size w ((w.alloc (.cells #[.int .i64 0, .int .i64 0] 61)).alloc (.cells #[.int .i64 0, .int .i64 0] 61)) := below_two w _ _
    refine ⟨⟨?_, h1.keep (fun b i u _ hc => ⟨World.block_lt_of_cell? w ⟨b, i, none⟩ hc, hold hb hc⟩), k1, ⟨i64_zero, i64_zero⟩⟩, ⟨?_, h2.keep (fun b i u _ hc => ⟨World.block_lt_of_cell? w ⟨b, i, none⟩ hc, hold hb hc⟩), k2, ⟨i64_zero, i64_zero⟩⟩, by simp [Side.den], hb⟩
    · rw [Below.heap_alloc _ _ _ (by simp)]; exact heap_alloc_new w _
    · have := heap_alloc_new (w.alloc (.cells #[.int .i64 0, .int .i64 0] 61)) (.cells #[.int .i64 0, .int .i64 0] 61)
      rwa [World.size_alloc] at this)
  obtain ⟨D1, hD1⟩ : ∃ D, exs L1 Y1 m1 = D := ⟨_, rfl⟩
  obtain ⟨D2, hD2⟩ : ∃ D, exs L2 Y2 m2 = D := ⟨_, rfl⟩
  rw [hD1, hD2] at H0 ⊢
  clear h1 h2 hD1 hD2
  go_enter Tryz.func83, Tryz.ntmps83
  go_wp2_with fail
  go_loopw [0, 1] (fun va vb wr => ∃ z1 z2 : Side, va = .slice z1.ao z1.m z1.cap ∧ vb = .slice z2.ao z2.m z2.cap ∧ Box (SmI w D1 D2 wr z1 z2)) (fun va vb wr => smu w va vb wr)
  case atStart => exact ⟨_, _, rfl, rfl, H0⟩
  case round =>
    obtain ⟨z1, z2, rfl, rfl, HI⟩ := hrel
    have HM := boxed (smu_eq HI.out)
    have HU1 := boxed (underway_any (· < w.heap.size) wr z1.l z1.y z1.ao z1.m z1.cap z1.L z1.Y HI.out.s1.at_ HI.out.s1.cap HI.out.s1.i64)
    obtain ⟨a0, a1, a2, a3⟩ := box_facts HI.out.s1.bx
    obtain ⟨b0, b1, b2, b3⟩ := box_facts HI.out.s2.bx
    have hzw : (w.heap.size : Nat) ≠ w.heap.size + 1 := by omega
    go_wp2_with fail
    refine HU1.out.mono ?_
    rintro e w1 ⟨l1, y1, ao1, m1', cap1, L1', Y1', rfl, hp1, hc1, hm1, hi1, hd1, hz1, hb1⟩
    have HS1 := boxed (HI.out.below hb1)
    have HS2 := boxed (HS1.out.one (z := ⟨l1, y1, ao1, m1', cap1, L1', Y1'⟩) hp1 hc1 hi1 (by unfold Side.den; dsimp only; rw [hd1]))
    have HU2 := boxed (underway_any (· < w.heap.size) _ z2.l z2.y z2.ao z2.m z2.cap z2.L z2.Y HS2.out.s2.at_ HS2.out.s2.cap HS2.out.s2.i64)
    obtain ⟨a0, a1, a2, a3⟩ := box_facts HS1.out.s1.bx
    obtain ⟨b0, b1, b2, b3⟩ := box_facts HS1.out.s2.bx
    clear hp1 hc1 hi1 hb1 HU1 hd1
    go_wp2_with fail
    refine HU2.out.mono ?_
    rintro e w2 ⟨l2, y2, ao2, m2', cap2, L2', Y2', rfl, hp2, hc2, hm2, hi2, hd2, hz2, hb2⟩
    have HS3 := boxed (HS2.out.below hb2)
    have HS4 := boxed (HS3.out.two (z := ⟨l2, y2, ao2, m2', cap2, L2', Y2'⟩) hp2 hc2 hi2 (by unfold Side.den; dsimp only; rw [hd2]))
    obtain ⟨a0, a1, a2, a3⟩ := box_facts HS3.out.s1.bx
    obtain ⟨b0, b1, b2, b3⟩ := box_facts HS3.out.s2.bx
    dsimp only at a0 a1
    clear hp2 hc2 hi2 hb2 HU2 hd2
    by_cases c1 : l1 ≤ 0
    · have t1 : decide (l1 ≤ 0) = true := decide_eq_true c1
      have HN1 : Box ((⟨l1, y1, ao1, m1', cap1, L1', Y1'⟩ : Side).den = []) := boxed (den_nil c1 (by show m1' = 0; omega))
      by_cases c2 : l2 ≤ 0
      · have t2 : decide (l2 ≤ 0) = true := decide_eq_true c2
        have HN2 : Box ((⟨l2, y2, ao2, m2', cap2, L2', Y2'⟩ : Side).den = []) := boxed (den_nil c2 (by show m2' = 0; omega))
        go_wp2
        go_ret
        exact ⟨true, rfl, ⟨fun _ => HS4.out.eq.1 (by rw [HN1.out, HN2.out]), fun _ => rfl⟩, HS4.out.bel⟩
      · have t2 : decide (l2 ≤ 0) = false := decide_eq_false c2
        obtain ⟨r, hr⟩ := den_cons (z := ⟨l2, y2, ao2, m2', cap2, L2', Y2'⟩) (by show 0 < l2; omega)
        have HN2 := boxed hr
        clear hr
        go_wp2
        go_ret
        exact ⟨false, rfl, ⟨(fun h => by cases h), fun h => by have := HS4.out.eq.2 h; rw [HN1.out, HN2.out] at this; cases this⟩, HS4.out.bel⟩
    · have t1 : decide (l1 ≤ 0) = false := decide_eq_false c1
      obtain ⟨r1, hr1⟩ := den_cons (z := ⟨l1, y1, ao1, m1', cap1, L1', Y1'⟩) (by show 0 < l1; omega)
      have HN1 := boxed hr1
      clear hr1
      by_cases c2 : l2 ≤ 0
      · have t2 : decide (l2 ≤ 0) = true := decide_eq_true c2
        have HN2 : Box ((⟨l2, y2, ao2, m2', cap2, L2', Y2'⟩ : Side).den = []) := boxed (den_nil c2 (by show m2' = 0; omega))
        go_wp2
        go_ret
        exact ⟨false, rfl, ⟨(fun h => by cases h), fun h => by have := HS4.out.eq.2 h; rw [HN1.out, HN2.out] at this; cases this⟩, HS4.out.bel⟩
      · have t2 : decide (l2 ≤ 0) = false := decide_eq_false c2
        obtain ⟨r2, hr2⟩ := den_cons (z := ⟨l2, y2, ao2, m2', cap2, L2', Y2'⟩) (by show 0 < l2; omega)
        have HN2 := boxed hr2
        clear hr2
        by_cases c3 : y1 = y2
        · have t3 : (y1 == y2) = true := by simpa using c3
          obtain ⟨k, hk⟩ : ∃ k : Int, (if l2 < l1 then l2 else l1) = k := ⟨_, rfl⟩
          have hk1 : k ≤ l1 ∧ k ≤ l2 ∧ 0 ≤ k ∧ (k = l1 ∨ k = l2) := by split at hk <;> omega
          have hk2 : min l1 l2 = k := by omega
          have i1 := HS4.out.s1.i64.1
          have i2 := HS4.out.s2.i64.1
          dsimp only at i1 i2
          have w1a : IntKind.i64.wrap (l1 - k) = l1 - k := by have := i1.1; have := i1.2; rw [IntKind.wrap_i64]; omega
          have w2a : IntKind.i64.wrap (l2 - k) = l2 - k := by have := i2.1; have := i2.2; rw [IntKind.wrap_i64]; omega
          have HS5 := boxed (HS4.out.cut k ⟨hk1.1, hk1.2.1, hk1.2.2.1⟩ c3)
          have hmm : 2 * m1' + pz (l1 - k) + (2 * m2' + pz (l2 - k)) < 2 * z1.m + pz z1.l + (2 * z2.m + pz z2.l) := by
            have e1 : pz l1 = 1 := if_pos (by omega)
            have e2 : pz l2 = 1 := if_pos (by omega)
            rw [e1] at hm1
            rw [e2] at hm2
            have e3 := pz_le (l1 - k)
            have e4 := pz_le (l2 - k)
            rcases hk1.2.2.2 with rfl | rfl
            · have e5 : pz (k - k) = 0 := if_neg (by omega)
              omega
            · have e5 : pz (k - k) = 0 := if_neg (by omega)
              omega
          have HMM := boxed hmm
          clear hm1 hm2 hmm i1 i2
          go_wp2_with fail
          exact ⟨⟨_, _, rfl, rfl, HS5⟩, by have e1 := smu_eq HS5.out; dsimp only at e1; rw [e1, HM.out]; exact HMM.out⟩
        · have t3 : (y1 == y2) = false := by simpa using c3
          go_wp2
          go_ret
          exact ⟨false, rfl, ⟨(fun h => by cases h), fun h => by have := HS4.out.eq.2 h; rw [HN1.out, HN2.out] at this; injection this with h1 h2; exact absurd h1 c3⟩, HS4.out.bel⟩
end Go.Proofs.YtcjcdpfjnomehaaGreat.Ru
