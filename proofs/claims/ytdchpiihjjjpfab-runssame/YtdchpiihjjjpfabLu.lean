/-
  What the document's Runs and Same answer.
-/
import Derived.Test.YtdchpiihjjjpfabLo
import Derived.Laws.StructEq
namespace Go.Proofs.Ytdchpiihjjjpfab
open Go.RowKit
set_option linter.unusedSimpArgs false
set_option linter.unusedVariables false

/-- Runs as a slice that is handed on: their cells. -/
def RunsIn (w : World) (ao : Option Addr) (R : List (Nat × Int)) : Prop := P2At (fun _ => True) w ao R.length (fun i => ((R.getD i (0, 0)).1 : Nat)) (fun i => Ys R i)
theorem own_runs {w : World} {B : Nat} {ao : Option Addr} {cap n : Nat} {R : List (Nat × Int)} (h : w.ownsRow B 25 2 (.slice ao n cap) R.length (rcs R)) (hn : n = R.length) (hl : ∀ p ∈ R, p.1 ≤ 9223372036854775807 ∧ I64 p.2) : P2At (fun b => B ≤ b) w ao R.length (fun i => ((R.getD i (0, 0)).1 : Nat)) (fun i => Ys R i) := by
  subst hn
  intro i hi
  obtain ⟨g, cap', e⟩ := ownsRow_form h (by omega)
  injection e with e1 e2 e3
  subst e1; subst e3
  obtain ⟨p1, p2⟩ := rcs_get R i hi
  have hb := h.lt g rfl
  have hm : R.getD i (0, 0) ∈ R := by simp [List.getD, hi]
  have hp := hl _ hm
  refine ⟨⟨⟨?_, ?_⟩, hp.2⟩, g, 0, rfl, hb.1, ?_, ?_⟩
  · show (_ : Int) ≤ (((R.getD i (0, 0)).1 : Nat) : Int); omega
  · show (((R.getD i (0, 0)).1 : Nat) : Int) ≤ _; omega
  · rw [Nat.zero_add, h.cellAt (i * 2) (by omega), p1]
  · rw [Nat.zero_add, h.cellAt (i * 2 + 1) (by omega), p2]

theorem enc_ok {s : List Int} (hs : Sok s) (hl : s.length ≤ 8589934592) : ∀ p ∈ enc s, p.1 ≤ 9223372036854775807 ∧ I64 p.2 := by
  intro p hp
  obtain ⟨i, hi, e⟩ := List.getElem_of_mem hp
  have h1 : sm (enc s) = s.length := sm_enc s
  have h2 : ∀ (R : List (Nat × Int)), p ∈ R → p.1 ≤ sm R := by
    intro R
    induction R with
    | nil => intro h; cases h
    | cons q r ih =>
      intro h
      simp only [sm]
      rcases List.mem_cons.1 h with rfl | h
      · omega
      · have := ih h; omega
  have h3 := h2 _ hp
  have h4 : p.2 ∈ s := by
    have := Ys_in s i hi
    have e2 : Ys (enc s) i = p.2 := by simp [Ys, List.getD, hi, e]
    rwa [e2] at this
  have := hs _ h4
  exact ⟨by omega, by omega, by omega⟩

theorem guardR : Try.prog.eqGuardType Try.prog.depth 25 = false := by kernel_rfl
theorem eqRun (a b d e : Int) (w : World) : (Op.equalIn 10000 25 (.agg #[.int .i64 a, .int .i64 b]) (.agg #[.int .i64 d, .int .i64 e])).run Try.prog w = .ok (a == d && b == e) w := by
  have u3 := Try.underlying3
  have hS : Try.prog.underlying 25 = some (.struct (Try.prog.fieldsOf 25)) := by kernel_rfl
  have hp : Try.prog.stoodInHeld 25 = false := by kernel_rfl
  rw [show (10000 : Nat) = 9999 + 1 from rfl, run_equalIn_agg w 9999 25 _ _ hS hp]
  simp only [Program.fieldsOf, Try.underlying25]
  go_simp
  by_cases h1 : a = d <;> by_cases h2 : b = e <;> simp [h1, h2]
theorem neqRun (a b d e : Int) (w : World) : (binOp .neq 25 (.agg #[.int .i64 a, .int .i64 b]) (.agg #[.int .i64 d, .int .i64 e])).run Try.prog w = .ok (.bool (!(a == d && b == e))) w := by
  rw [run_neq_struct, eqRun]
  rfl
theorem guardRun (op : BinOp) (x y : Operand) (xs ys : Array Value) (w : World) : (eqGuard op 25 x y (.agg xs) (.agg ys)).run Try.prog w = .ok () w := run_eqGuard_agg w op 25 x y xs ys guardR

set_option maxRecDepth 100000 in
set_option maxHeartbeats 4000000 in
/-- Same: the same runs, one by one. -/
theorem rsame_any (A B : Nat → Prop) (w : World) (ao bo : Option Addr) (na nb ca cb : Nat) (L1 Y1 L2 Y2 : Nat → Int) (h1 : P2At A w ao na L1 Y1) (h2 : P2At B w bo nb L2 Y2) (hn : na ≤ 1048576) : Calls Try.prog 7 #[.slice ao na ca, .slice bo nb cb] w fun e w' => ∃ r, e = .returned (.bool r) ∧ (r = true ↔ na = nb ∧ ∀ i, i < na → L1 i = L2 i ∧ Y1 i = Y2 i) ∧ Below w.heap.size w w' := by
  have H1 := boxed h1
  have H2 := boxed h2
  clear h1 h2
  by_cases c : na = nb
  · subst c
    go_enter Try.func7, Try.ntmps7
    go_wp2_with fail
    go_loopw [5] (fun vi wr => ∃ i : Nat, i ≤ na ∧ vi = .int .i64 (i : Nat) ∧ Box (∀ j, j < i → L1 j = L2 j ∧ Y1 j = Y2 j) ∧ Box (Below w.heap.size w wr)) (fun vi _ => na - (intOf vi).toNat)
    case atStart => exact ⟨0, Nat.zero_le _, rfl, boxed (fun j hj => by omega), boxed (Below.refl _ _)⟩
    case round =>
      obtain ⟨i, hi, rfl, HS, HB⟩ := hrel
      by_cases hlt : i < na
      · obtain ⟨b1, o1, rfl, -⟩ := H1.out.form (by omega)
        obtain ⟨b2, o2, rfl, -⟩ := H2.out.form (by omega)
        obtain ⟨p0, p1⟩ := (H1.out.below HB.out).get i hlt
        obtain ⟨q0, q1⟩ := (H2.out.below HB.out).get i hlt
        have hgd := guardRun
        have hne := fun w => neqRun (L1 i) (Y1 i) (L2 i) (Y2 i) w
        by_cases ce : L1 i = L2 i ∧ Y1 i = Y2 i
        · have te : (!(L1 i == L2 i && Y1 i == Y2 i)) = false := by simp [ce.1, ce.2]
          simp only [te] at hne
          have HS2 : Box (∀ j, j < i + 1 → L1 j = L2 j ∧ Y1 j = Y2 j) := boxed (fun j hj => by
            by_cases d : j = i
            · subst d; exact ce
            · exact HS.out j (by omega))
          clear ce te HS
          generalize L1 i = l1 at *
          generalize Y1 i = y1 at *
          generalize L2 i = l2 at *
          generalize Y2 i = y2 at *
          go_wp2_with fail
          go_quiet (fail)
          go_wp2_with fail
          go_roundw
          case rel => exact ⟨i + 1, by omega, by go_num, HS2, boxed (HB.out.trans (bel_drewN _ _ _))⟩
          case measure => simp [intOf]; omega
        · have te : (!(L1 i == L2 i && Y1 i == Y2 i)) = true := by
            by_cases c1 : L1 i = L2 i
            · have c2 : Y1 i ≠ Y2 i := fun e => ce ⟨c1, e⟩
              simp [c2]
            · simp [c1]
          simp only [te] at hne
          have HS2 : Box (¬ ∀ j, j < na → L1 j = L2 j ∧ Y1 j = Y2 j) := boxed (fun hh => ce (hh i hlt))
          clear ce te HS
          generalize L1 i = l1 at *
          generalize Y1 i = y1 at *
          generalize L2 i = l2 at *
          generalize Y2 i = y2 at *
          go_wp2_with fail
          go_quiet (fail)
          go_wp2_with fail
          go_ret
          exact ⟨false, rfl, ⟨(fun h => by cases h), (fun h => absurd h.2 HS2.out)⟩, HB.out.trans (bel_drewN _ _ _)⟩
      · obtain rfl : i = na := by omega
        go_wp2_with fail
        go_ret
        exact ⟨true, rfl, ⟨fun _ => ⟨by first | rfl | trivial, HS.out⟩, fun _ => rfl⟩, HB.out⟩
  · have t : ((na : Int) == (nb : Int)) = false := by rw [beq_eq_false_iff_ne]; omega
    have c' := boxed c
    clear c
    go_enter Try.func7, Try.ntmps7
    go_wp2
    go_ret
    exact ⟨false, rfl, by simp [c'.out], Below.refl _ _⟩

theorem same_lists (R Q : List (Nat × Int)) : (R.length = Q.length ∧ ∀ i, i < R.length → (((R.getD i (0, 0)).1 : Nat) : Int) = (((Q.getD i (0, 0)).1 : Nat) : Int) ∧ Ys R i = Ys Q i) ↔ R = Q := by
  constructor
  · rintro ⟨h1, h2⟩
    apply List.ext_getElem h1
    intro i hi hj
    obtain ⟨k1, k2⟩ := h2 i hi
    unfold Ys at k2
    have e1 : R.getD i (0, 0) = R[i] := by simp [List.getD, hi]
    have e2 : Q.getD i (0, 0) = Q[i] := by simp [List.getD, hj]
    rw [e1, e2] at k1 k2
    exact Prod.ext (by omega) k2
  · rintro rfl
    exact ⟨rfl, fun i _ => ⟨rfl, rfl⟩⟩
/-- Two slices of runs that are made: the same just if the runs are. -/
theorem rsame_runs (B C : Nat) (w : World) (v1 v2 : Value) (R Q : List (Nat × Int)) (h1 : w.ownsRow B 25 2 v1 R.length (rcs R)) (h2 : w.ownsRow C 25 2 v2 Q.length (rcs Q)) (k1 : ∀ p ∈ R, p.1 ≤ 9223372036854775807 ∧ I64 p.2) (k2 : ∀ p ∈ Q, p.1 ≤ 9223372036854775807 ∧ I64 p.2) (hn : R.length ≤ 1048576) :
    Calls Try.prog 7 #[v1, v2] w fun e w' => ∃ r, e = .returned (.bool r) ∧ (r = true ↔ R = Q) ∧ Below w.heap.size w w' := by
  have shp : ∀ {B : Nat} {v : Value} {R : List (Nat × Int)}, w.ownsRow B 25 2 v R.length (rcs R) → ∃ ao cap, v = .slice ao R.length cap := fun h => by
    rcases ownsRow_forms h with ⟨g1, g2⟩ | ⟨g, cap, g1⟩
    · exact ⟨none, 0, by rw [g2]; exact g1⟩
    · exact ⟨_, _, g1⟩
  obtain ⟨ao, ca, rfl⟩ := shp h1
  obtain ⟨bo, cb, rfl⟩ := shp h2
  refine (rsame_any _ _ w ao bo R.length Q.length ca cb _ _ _ _ (own_runs h1 rfl k1) (own_runs h2 rfl k2) hn).mono ?_
  rintro e w' ⟨r, rfl, hr, hb⟩
  exact ⟨r, rfl, hr.trans (same_lists R Q), hb⟩
end Go.Proofs.Ytdchpiihjjjpfab
