/-
  What the document's New, Near, Span, Insert, Delete and Set answer.
-/
import Derived.Laws.StructEq
import Derived.Test.YtcjcdpfjnomehaaGreatPx14
import Derived.Test.YtcjcdpfjnomehaaGreatPx20
namespace Go.Proofs.YtcjcdpfjnomehaaGreat.Ru
open Go.RowKit
set_option linter.unusedSimpArgs false
set_option linter.unusedVariables false
structure RfAt (N : Nat → Prop) (w : World) (b off cap : Nat) (s : List Int) : Prop where
  ne : ∀ i, i < s.length → N b
  cap : s.length ≤ cap
  cells : ∀ i, i < s.length → w.cell? ⟨b, off + i, none⟩ = some (.int .i64 (s.getD i 0))
  ok : Sok s
  len : s.length ≤ 65536
theorem RfAt.keep {N : Nat → Prop} {w w' : World} {b off cap : Nat} {s : List Int} (h : RfAt N w b off cap s) (k : Kp N N w w') : RfAt N w' b off cap s :=
  ⟨h.ne, h.cap, fun i hi => (k _ _ _ (h.ne i hi) (h.cells i hi)).2, h.ok, h.len⟩
theorem RfAt.below {N : Nat → Prop} {w w' : World} {b off cap : Nat} {s : List Int} (h : RfAt N w b off cap s) (hb : Below w.heap.size w w') : RfAt N w' b off cap s := h.keep (kp_below hb)
theorem RfAt.other {N : Nat → Prop} {rb : Nat} {w w' : World} {b off cap : Nat} {s : List Int} (h : RfAt N w b off cap s) (hb : ∀ i, i < s.length → b ≠ rb) (hg : w.grownBy w' (some rb)) : RfAt N w' b off cap s :=
  ⟨h.ne, h.cap, fun i hi => hg.cell (h.cells i hi) (fun e => by injection e with e; exact hb i hi e), h.ok, h.len⟩
theorem put2_all {w : World} {rb : Nat} {x y v0 v1 : Value} {t : TypeId} (h : w.heap[rb]? = some (.cells #[x, y] t (0, 0))) :
    ((w.setCell ⟨rb, 0, none⟩ v0).setCell ⟨rb, 1, none⟩ v1).cell? ⟨rb, 0, none⟩ = some v0 ∧ ((w.setCell ⟨rb, 0, none⟩ v0).setCell ⟨rb, 1, none⟩ v1).cell? ⟨rb, 1, none⟩ = some v1 ∧ w.grownBy ((w.setCell ⟨rb, 0, none⟩ v0).setCell ⟨rb, 1, none⟩ v1) (some rb) := by
  have h2 := set1_heap (v := v1) (set0_heap (v := v0) h)
  exact ⟨by simp [World.cell?, h2], by simp [World.cell?, h2], grown_trans (grown_set _ _ _ _) (grown_set _ _ _ _)⟩
section
variable {N : Nat → Prop} {w : World} {b off cap : Nat} {s : List Int} {base : Int}
end
end Go.Proofs.YtcjcdpfjnomehaaGreat.Ru

/-
  What the document's Runs and Same answer.
-/
namespace Go.Proofs.YtcjcdpfjnomehaaGreat.Ru
open Go.RowKit
set_option linter.unusedSimpArgs false
set_option linter.unusedVariables false
def RunsIn (w : World) (ao : Option Addr) (R : List (Nat × Int)) : Prop := P2At (fun _ => True) w ao R.length (fun i => ((R.getD i (0, 0)).1 : Nat)) (fun i => Ys R i)
theorem own_runs {w : World} {B : Nat} {ao : Option Addr} {cap n : Nat} {R : List (Nat × Int)} (h : w.ownsRow B 61 2 (.slice ao n cap) R.length (rcs R)) (hn : n = R.length) (hl : ∀ p ∈ R, p.1 ≤ 9223372036854775807 ∧ I64 p.2) : P2At (fun b => B ≤ b) w ao R.length (fun i => ((R.getD i (0, 0)).1 : Nat)) (fun i => Ys R i) := by
  subst hn
  intro i hi
  obtain ⟨g, cap', e⟩ := ownsRow_form h (by omega)
  injection e with e1 e2 e3
  subst e1; subst e3
  obtain ⟨p1, p2⟩ := rcs_get R i hi
  have hb := h.lt g rfl
  have hm : R.getD i (0, 0) ∈ R := by simp [List.getD, hi]
  have hp := hl _ hm
  refine ⟨⟨⟨?_, ?_⟩, hp.2⟩, g, 0, rfl, hb.1, ?_, ?_⟩
  · show (_ : Int) ≤ (((R.getD i (0, 0)).1 : Nat) : Int); omega
  · show (((R.getD i (0, 0)).1 : Nat) : Int) ≤ _; omega
  · rw [Nat.zero_add, h.cellAt (i * 2) (by omega), p1]
  · rw [Nat.zero_add, h.cellAt (i * 2 + 1) (by omega), p2]
theorem enc_ok {s : List Int} (hs : Sok s) (hl : s.length ≤ 8589934592) : ∀ p ∈ enc s, p.1 ≤ 9223372036854775807 ∧ I64 p.2 := by
  intro p hp
  obtain ⟨i, hi, e⟩ := List.getElem_of_mem hp
  have h1 : sm (enc s) = s.length := sm_enc s
  have h2 : ∀ (R : List (Nat × Int)), p ∈ R → p.1 ≤ sm R := by
    intro R
    induction R with
    | nil => intro h; cases h
    | cons q r ih =>
      intro h
      simp only [sm]
      rcases List.mem_cons.1 h with rfl | h
      · omega
      · have := ih h; omega
  have h3 := h2 _ hp
  have h4 : p.2 ∈ s := by
    have := Ys_in s i hi
    have e2 : Ys (enc s) i = p.2 := by simp [Ys, List.getD, hi, e]
    rwa [e2] at this
  have := hs _ h4
  exact ⟨by omega, by omega, by omega⟩
theorem guardR : Tryz.prog.eqGuardType Tryz.prog.depth 61 = false := by kernel_rfl
theorem eqRun (a b d e : Int) (w : World) : (Op.equalIn 10000 61 (.agg #[.int .i64 a, .int .i64 b]) (.agg #[.int .i64 d, .int .i64 e])).run Tryz.prog w = .ok (a == d && b == e) w := by
  have u3 := Tryz.underlying3
  have hS : Tryz.prog.underlying 61 = some (.struct (Tryz.prog.fieldsOf 61)) := by kernel_rfl
  have hp : Tryz.prog.stoodInHeld 61 = false := by kernel_rfl
  rw [show (10000 : Nat) = 9999 + 1 from rfl, run_equalIn_agg w 9999 61 _ _ hS hp]
  simp only [Program.fieldsOf, Tryz.underlying61]
  go_simp
  by_cases h1 : a = d <;> by_cases h2 : b = e <;> simp [h1, h2]
theorem neqRun (a b d e : Int) (w : World) : (binOp .neq 61 (.agg #[.int .i64 a, .int .i64 b]) (.agg #[.int .i64 d, .int .i64 e])).run Tryz.prog w = .ok (.bool (!(a == d && b == e))) w := by
  rw [run_neq_struct, eqRun]
  rfl
theorem guardRun (op : BinOp) (x y : Operand) (xs ys : Array Value) (w : World) : (eqGuard op 61 x y (.agg xs) (.agg ys)).run Tryz.prog w = .ok () w := run_eqGuard_agg w op 61 x y xs ys guardR
set_option maxRecDepth 100000 in
set_option maxHeartbeats 4000000 in
theorem rsame_any (A B : Nat → Prop) (w : World) (ao bo : Option Addr) (na nb ca cb : Nat) (L1 Y1 L2 Y2 : Nat → Int) (h1 : P2At A w ao na L1 Y1) (h2 : P2At B w bo nb L2 Y2) (hn : na ≤ 1048576) : Calls Tryz.prog 27 #[.slice ao na ca, .slice bo nb cb] w fun e w' => ∃ r, e = .returned (.bool r) ∧ (r = true ↔ na = nb ∧ ∀ i, i < na → L1 i = L2 i ∧ Y1 i = Y2 i) ∧ Below w.heap.size w w' := by
  have H1 := boxed h1
  have H2 := boxed h2
  clear h1 h2
  by_cases c : na = nb
  · subst c
    go_enter Tryz.func27, Tryz.ntmps27
    go_wp2_with fail
    go_loopw [5] (fun vi wr => ∃ i : Nat, i ≤ na ∧ vi = .int .i64 (i : Nat) ∧ Box (∀ j, j < i → L1 j = L2 j ∧ Y1 j = Y2 j) ∧ Box (Below w.heap.size w wr)) (fun vi _ => na - (intOf vi).toNat)
    case atStart => exact ⟨0, Nat.zero_le _, rfl, boxed (fun j hj => by omega), boxed (Below.refl _ _)⟩
    case round =>
      obtain ⟨i, hi, rfl, HS, HB⟩ := hrel
      by_cases hlt : i < na
      · obtain ⟨b1, o1, rfl, -⟩ := H1.out.form (by omega)
        obtain ⟨b2, o2, rfl, -⟩ := H2.out.form (by omega)
        obtain ⟨p0, p1⟩ := (H1.out.below HB.out).get i hlt
        obtain ⟨q0, q1⟩ := (H2.out.below HB.out).get i hlt
        have hgd := guardRun
        have hne := fun w => neqRun (L1 i) (Y1 i) (L2 i) (Y2 i) w
        by_cases ce : L1 i = L2 i ∧ Y1 i = Y2 i
        · have te : (!(L1 i == L2 i && Y1 i == Y2 i)) = false := by simp [ce.1, ce.2]
          simp only [te] at hne
          have HS2 : Box (∀ j, j < i + 1 → L1 j = L2 j ∧ Y1 j = Y2 j) := boxed (fun j hj => by
            by_cases d : j = i
            · subst d; exact ce
            · exact HS.out j (by omega))
          clear ce te HS
          generalize L1 i = l1 at *
          generalize Y1 i = y1 at *
          generalize L2 i = l2 at *
          generalize Y2 i = y2 at *
          go_wp2_with fail
          go_quiet (fail)
          go_wp2_with fail
          go_roundw
          case rel => exact ⟨i + 1, by omega, by go_num, HS2, boxed (HB.out.trans (bel_drewN _ _ _))⟩
          case measure => simp [intOf]; omega
        · have te : (!(L1 i == L2 i && Y1 i == Y2 i)) = true := by
            by_cases c1 : L1 i = L2 i
            · have c2 : Y1 i ≠ Y2 i := fun e => ce ⟨c1, e⟩
              simp [c2]
            · simp [c1]
          simp only [te] at hne
          have HS2 : Box (¬ ∀ j, j < na → L1 j = L2 j ∧ Y1 j = Y2 j) := boxed (fun hh => ce (hh i hlt))
          clear ce te HS
          generalize L1 i = l1 at *
          generalize Y1 i = y1 at *
          generalize L2 i = l2 at *
          generalize Y2 i = y2 at *
          go_wp2_with fail
          go_quiet (fail)
          go_wp2_with fail
          go_ret
          exact ⟨false, rfl, ⟨(fun h => by cases h), (fun h => absurd h.2 HS2.out)⟩, HB.out.trans (bel_drewN _ _ _)⟩
      · obtain rfl : i = na := by omega
        go_wp2_with fail
        go_ret
        exact ⟨true, rfl, ⟨fun _ => ⟨by first | rfl | trivial, HS.out⟩, fun _ => rfl⟩, HB.out⟩
  · have t : ((na : Int) == (nb : Int)) = false := by rw [beq_eq_false_iff_ne]; omega
    have c' := boxed c
    clear c
    go_enter Tryz.func27, Tryz.ntmps27
    go_wp2
    go_ret
    exact ⟨false, rfl, by simp [c'.out], Below.refl _ _⟩
theorem same_lists (R Q : List (Nat × Int)) : (R.length = Q.length ∧ ∀ i, i < R.length → (((R.getD i (0, 0)).1 : Nat) : Int) = (((Q.getD i (0, 0)).1 : Nat) : Int) ∧ Ys R i = Ys Q i) ↔ R = Q := by
  constructor
  · rintro ⟨h1, h2⟩
    apply List.ext_getElem h1
    intro i hi hj
    obtain ⟨k1, k2⟩ := h2 i hi
    unfold Ys at k2
    have e1 : R.getD i (0, 0) = R[i] := by simp [List.getD, hi]
    have e2 : Q.getD i (0, 0) = Q[i] := by simp [List.getD, hj]
    rw [e1, e2] at k1 k2
    exact Prod.ext (by omega) k2
  · rintro rfl
    exact ⟨rfl, fun i _ => ⟨rfl, rfl⟩⟩
theorem rsame_runs (B C : Nat) (w : World) (v1 v2 : Value) (R Q : List (Nat × Int)) (h1 : w.ownsRow B 61 2 v1 R.length (rcs R)) (h2 : w.ownsRow C 61 2 v2 Q.length (rcs Q)) (k1 : ∀ p ∈ R, p.1 ≤ 9223372036854775807 ∧ I64 p.2) (k2 : ∀ p ∈ Q, p.1 ≤ 9223372036854775807 ∧ I64 p.2) (hn : R.length ≤ 1048576) :
    Calls Tryz.prog 27 #[v1, v2] w fun e w' => ∃ r, e = .returned (.bool r) ∧ (r = true ↔ R = Q) ∧ Below w.heap.size w w' := by
  have shp : ∀ {B : Nat} {v : Value} {R : List (Nat × Int)}, w.ownsRow B 61 2 v R.length (rcs R) → ∃ ao cap, v = .slice ao R.length cap := fun h => by
    rcases ownsRow_forms h with ⟨g1, g2⟩ | ⟨g, cap, g1⟩
    · exact ⟨none, 0, by rw [g2]; exact g1⟩
    · exact ⟨_, _, g1⟩
  obtain ⟨ao, ca, rfl⟩ := shp h1
  obtain ⟨bo, cb, rfl⟩ := shp h2
  refine (rsame_any _ _ w ao bo R.length Q.length ca cb _ _ _ _ (own_runs h1 rfl k1) (own_runs h2 rfl k2) hn).mono ?_
  rintro e w' ⟨r, rfl, hr, hb⟩
  exact ⟨r, rfl, hr.trans (same_lists R Q), hb⟩
end Go.Proofs.YtcjcdpfjnomehaaGreat.Ru

/-
  What the program's underway does.
-/
namespace Go.Proofs.YtcjcdpfjnomehaaGreat.Ru
open Go.RowKit
set_option linter.unusedSimpArgs false
set_option linter.unusedVariables false
def exs : (Nat → Int) → (Nat → Int) → Nat → List Int
  | _, _, 0 => []
  | L, Y, m + 1 => List.replicate (L 0).toNat (Y 0) ++ exs (fun i => L (i + 1)) (fun i => Y (i + 1)) m
def bk2 (off cap : Nat) : Nat := if cap = 1 then off else off + 2
theorem P2At.tail {S : Nat → Prop} {w : World} {b off m cap : Nat} {L Y : Nat → Int} (h : P2At S w (some ⟨b, off, none⟩) (m + 1) L Y) (hc : m + 1 ≤ cap) : P2At S w (some ⟨b, bk2 off cap, none⟩) m (fun i => L (i + 1)) (fun i => Y (i + 1)) := by
  intro i hi
  obtain ⟨h1, b', off', e, h2, c0, c1⟩ := h (i + 1) (by omega)
  injection e with e
  injection e with e1 e2 e3
  subst e1; subst e2
  have eo : bk2 off cap = off + 2 := if_neg (by omega)
  rw [eo]
  refine ⟨h1, b, off + 2, rfl, h2, ?_, ?_⟩
  · rw [show off + 2 + i * 2 = off + (i + 1) * 2 from by omega]; exact c0
  · rw [show off + 2 + i * 2 + 1 = off + (i + 1) * 2 + 1 from by omega]; exact c1
def pz (l : Int) : Nat := if 0 < l then 1 else 0
structure UwI (S : Nat → Prop) (w : World) (D : List Int) (m : Nat) (wr : World) (l y : Int) (ao : Option Addr) (k cap : Nat) (L Y : Nat → Int) : Prop where
  lf : wr.heap[w.heap.size]? = some (.cells #[.int .i64 l, .int .i64 y] 61 (0, 0))
  rs : wr.heap[w.heap.size + 1]? = some (.cells #[.int .i64 0, .int .i64 0] 61 (0, 0))
  at_ : P2At (fun b => S b ∧ b < w.heap.size) wr ao k L Y
  cap : k ≤ cap
  le : 2 * k + pz l ≤ m
  i64 : I64 l ∧ I64 y
  den : List.replicate l.toNat y ++ exs L Y k = D
  bel : Below w.heap.size w wr
theorem UwI.drew {S : Nat → Prop} {w : World} {D : List Int} {m : Nat} {wr : World} {l y : Int} {ao : Option Addr} {k cap : Nat} {L Y : Nat → Int} (h : UwI S w D m wr l y ao k cap L Y) : UwI S w D m wr.drew l y ao k cap L Y :=
  ⟨h.lf, h.rs, h.at_.below (Below.refl _ _).drew, h.cap, h.le, h.i64, h.den, h.bel.drew⟩
def UwP (S : Nat → Prop) (w : World) (D : List Int) (m : Nat) (e : Ending) (w' : World) : Prop :=
  ∃ l' y' ao' m' cap' L' Y', e = .returned (.tuple #[.agg #[.int .i64 l', .int .i64 y'], .slice ao' m' cap']) ∧ P2At S w' ao' m' L' Y' ∧ m' ≤ cap' ∧ 2 * m' + pz l' ≤ m ∧ (I64 l' ∧ I64 y') ∧
      List.replicate l'.toNat y' ++ exs L' Y' m' = D ∧ (0 < l' ∨ (l' ≤ 0 ∧ m' = 0)) ∧ Below w.heap.size w w'
theorem UwI.done {S : Nat → Prop} {w : World} {D : List Int} {m : Nat} {wr : World} {l y : Int} {ao : Option Addr} {k cap : Nat} {L Y : Nat → Int} (h : UwI S w D m wr l y ao k cap L Y) (hd : 0 < l ∨ (l ≤ 0 ∧ k = 0)) :
    UwP S w D m (.returned (.tuple #[.agg #[.int .i64 l, .int .i64 y], .slice ao k cap])) ((wr.setCell ⟨w.heap.size + 1, 0, none⟩ (.int .i64 l)).setCell ⟨w.heap.size + 1, 1, none⟩ (.int .i64 y)) := by
  have hg := (put2_all (v0 := .int .i64 l) (v1 := .int .i64 y) h.rs).2.2
  exact ⟨l, y, ao, k, cap, L, Y, rfl, h.at_.keep (fun b i u hs hc => ⟨hs.1, hg.cell hc (fun e => by injection e with e; dsimp only at e; have := hs.2; omega)⟩), h.cap, h.le, h.i64, h.den, hd, h.bel.trans (grown_below hg (by omega) h.bel.size)⟩
end Go.Proofs.YtcjcdpfjnomehaaGreat.Ru

/-
  What the program's Same does: the same styles of as many bytes.
-/
namespace Go.Proofs.YtcjcdpfjnomehaaGreat.Ru
open Go.RowKit
set_option linter.unusedSimpArgs false
set_option linter.unusedVariables false
structure Side where
  l : Int
  y : Int
  ao : Option Addr
  m : Nat
  cap : Nat
  L : Nat → Int
  Y : Nat → Int
def Side.den (z : Side) : List Int := List.replicate z.l.toNat z.y ++ exs z.L z.Y z.m
def Side.mu (z : Side) : Nat := 2 * z.m + pz z.l
structure SdAt (n₀ : Nat) (W : World) (q : Nat) (z : Side) : Prop where
  bx : W.heap[q]? = some (.cells #[.int .i64 z.l, .int .i64 z.y] 61 (0, 0))
  at_ : P2At (· < n₀) W z.ao z.m z.L z.Y
  cap : z.m ≤ z.cap
  i64 : I64 z.l ∧ I64 z.y
theorem SdAt.below {n₀ : Nat} {W W' : World} {q : Nat} {z : Side} (h : SdAt n₀ W q z) (hb : Below W.heap.size W W') : SdAt n₀ W' q z :=
  ⟨by rw [hb.block _ (Array.getElem?_eq_some_iff.1 h.bx).1]; exact h.bx, h.at_.below hb, h.cap, h.i64⟩
theorem SdAt.other {n₀ : Nat} {W W' : World} {q r : Nat} {z : Side} (h : SdAt n₀ W q z) (hg : W.grownBy W' (some r)) (hr : n₀ ≤ r) (hne : q ≠ r) : SdAt n₀ W' q z :=
  ⟨by rw [hg.block _ (Array.getElem?_eq_some_iff.1 h.bx).1 (fun e => by injection e; omega)]; exact h.bx, h.at_.keep (fun b i u hs hc => ⟨hs, hg.cell hc (fun e => by injection e with e; dsimp only at e; omega)⟩), h.cap, h.i64⟩
theorem SdAt.put {n₀ : Nat} {W : World} {q : Nat} {x0 x1 : Value} (hb : W.heap[q]? = some (.cells #[x0, x1] 61 (0, 0))) (z : Side) (h : P2At (· < n₀) W z.ao z.m z.L z.Y) (hc : z.m ≤ z.cap) (hi : I64 z.l ∧ I64 z.y) (hq : n₀ ≤ q) :
    SdAt n₀ ((W.setCell ⟨q, 0, none⟩ (.int .i64 z.l)).setCell ⟨q, 1, none⟩ (.int .i64 z.y)) q z := by
  have hg := (put2_all (v0 := .int .i64 z.l) (v1 := .int .i64 z.y) hb).2.2
  exact ⟨set1_heap (set0_heap hb), h.keep (fun b i u hs hc => ⟨hs, hg.cell hc (fun e => by injection e with e; dsimp only at e; omega)⟩), hc, hi⟩
structure SmI (w : World) (D1 D2 : List Int) (W : World) (z1 z2 : Side) : Prop where
  s1 : SdAt w.heap.size W w.heap.size z1
  s2 : SdAt w.heap.size W (w.heap.size + 1) z2
  eq : z1.den = z2.den ↔ D1 = D2
  bel : Below w.heap.size w W
theorem SmI.below {w : World} {D1 D2 : List Int} {W W' : World} {z1 z2 : Side} (h : SmI w D1 D2 W z1 z2) (hb : Below W.heap.size W W') : SmI w D1 D2 W' z1 z2 :=
  ⟨h.s1.below hb, h.s2.below hb, h.eq, h.bel.trans (hb.mono h.bel.size)⟩
theorem SmI.one {w : World} {D1 D2 : List Int} {W : World} {z1 z2 z : Side} (h : SmI w D1 D2 W z1 z2) (ha : P2At (· < w.heap.size) W z.ao z.m z.L z.Y) (hc : z.m ≤ z.cap) (hi : I64 z.l ∧ I64 z.y) (hd : z.den = z2.den ↔ z1.den = z2.den) :
    SmI w D1 D2 ((W.setCell ⟨w.heap.size, 0, none⟩ (.int .i64 z.l)).setCell ⟨w.heap.size, 1, none⟩ (.int .i64 z.y)) z z2 := by
  have hg := (put2_all (v0 := .int .i64 z.l) (v1 := .int .i64 z.y) h.s1.bx).2.2
  exact ⟨SdAt.put h.s1.bx z ha hc hi (Nat.le_refl _), h.s2.other hg (Nat.le_refl _) (by omega), hd.trans h.eq, h.bel.trans (grown_below hg (Nat.le_refl _) h.bel.size)⟩
theorem SmI.two {w : World} {D1 D2 : List Int} {W : World} {z1 z2 z : Side} (h : SmI w D1 D2 W z1 z2) (ha : P2At (· < w.heap.size) W z.ao z.m z.L z.Y) (hc : z.m ≤ z.cap) (hi : I64 z.l ∧ I64 z.y) (hd : z1.den = z.den ↔ z1.den = z2.den) :
    SmI w D1 D2 ((W.setCell ⟨w.heap.size + 1, 0, none⟩ (.int .i64 z.l)).setCell ⟨w.heap.size + 1, 1, none⟩ (.int .i64 z.y)) z1 z := by
  have hg := (put2_all (v0 := .int .i64 z.l) (v1 := .int .i64 z.y) h.s2.bx).2.2
  exact ⟨h.s1.other hg (by omega) (by omega), SdAt.put h.s2.bx z ha hc hi (by omega), hd.trans h.eq, h.bel.trans (grown_below hg (by omega) h.bel.size)⟩
def rdL (W : World) (q : Nat) : Int := match W.cell? ⟨q, 0, none⟩ with | some (.int _ v) => v | _ => 0
def smu (w : World) (va vb : Value) (W : World) : Nat := (match va with | .slice _ k _ => 2 * k | _ => 0) + (match vb with | .slice _ k _ => 2 * k | _ => 0) + pz (rdL W w.heap.size) + pz (rdL W (w.heap.size + 1))
theorem SmI.cut {w : World} {D1 D2 : List Int} {W : World} {z1 z2 : Side} (h : SmI w D1 D2 W z1 z2) (n : Int) (hn : n ≤ z1.l ∧ n ≤ z2.l ∧ 0 ≤ n) (hy : z1.y = z2.y) :
    SmI w D1 D2 ((W.setCell ⟨w.heap.size, 0, none⟩ (.int .i64 (z1.l - n))).setCell ⟨w.heap.size + 1, 0, none⟩ (.int .i64 (z2.l - n))) { z1 with l := z1.l - n } { z2 with l := z2.l - n } := by
  have g1 : W.grownBy (W.setCell ⟨w.heap.size, 0, none⟩ (.int .i64 (z1.l - n))) (some w.heap.size) := grown_set _ _ _ _
  have g2 := grown_set (W.setCell ⟨w.heap.size, 0, none⟩ (.int .i64 (z1.l - n))) (w.heap.size + 1) 0 (.int .i64 (z2.l - n))
  have a1 := h.s1.i64
  have a2 := h.s2.i64
  have s1' : SdAt w.heap.size (W.setCell ⟨w.heap.size, 0, none⟩ (.int .i64 (z1.l - n))) w.heap.size { z1 with l := z1.l - n } :=
    ⟨set0_heap h.s1.bx, h.s1.at_.keep (fun b i u hs hc => ⟨hs, g1.cell hc (fun e => by injection e with e; dsimp only at e; omega)⟩), h.s1.cap, ⟨by have := a1.1.1; have := a1.1.2; show _ ≤ z1.l - n; omega, by have := a1.1.2; show z1.l - n ≤ _; omega⟩, a1.2⟩
  have s2' := h.s2.other g1 (Nat.le_refl _) (by omega)
  have hd : ({ z1 with l := z1.l - n } : Side).den = ({ z2 with l := z2.l - n } : Side).den ↔ z1.den = z2.den := by
    unfold Side.den
    dsimp only
    rw [show z1.l.toNat = n.toNat + (z1.l - n).toNat from by omega, show z2.l.toNat = n.toNat + (z2.l - n).toNat from by omega, ← hy, ← List.replicate_append_replicate, ← List.replicate_append_replicate, List.append_assoc, List.append_assoc, List.append_right_inj]
  refine ⟨s1'.other g2 (by omega) (by omega), ⟨set0_heap s2'.bx, s2'.at_.keep (fun b i u hs hc => ⟨hs, g2.cell hc (fun e => by injection e with e; dsimp only at e; omega)⟩), s2'.cap, ⟨by have := a2.1.1; have := a2.1.2; show _ ≤ z2.l - n; omega, by have := a2.1.2; show z2.l - n ≤ _; omega⟩, a2.2⟩, hd.trans h.eq, ?_⟩
  exact (h.bel.setCell (p := ⟨w.heap.size, 0, none⟩) (Nat.le_refl _) _).setCell (p := ⟨w.heap.size + 1, 0, none⟩) (by show w.heap.size ≤ w.heap.size + 1; omega) _
end Go.Proofs.YtcjcdpfjnomehaaGreat.Ru
