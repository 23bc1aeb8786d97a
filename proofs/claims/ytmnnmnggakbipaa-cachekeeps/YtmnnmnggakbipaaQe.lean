/-
  What ref, fits, Alike and Hash answer of keys.
-/
import Derived.Test.YtmnnmnggakbipaaQd
import Derived.Laws.StructEq
namespace Go.Proofs.Ytmnnmnggakbipaa
open Go.RowKit
set_option linter.unusedSimpArgs false
set_option linter.unusedVariables false

set_option maxHeartbeats 4000000 in
set_option maxRecDepth 100000 in
theorem refk_any (k : Kv) (w : World) :
    Calls Try.prog 15 #[k.val] w fun e w' => e = .returned k.val ∧ Below w.heap.size w w' := by
  obtain ⟨tx, ra, rn, rc, ta, wd, ⟨s1, s2, s3, s4, s5, s6, s7⟩, L, Y⟩ := k
  simp only [Kv.val] at *
  obtain ⟨W, hW⟩ : ∃ W, (w.alloc (.cells #[.string tx, .slice ra rn rc, .int .i64 ta, .int .i64 wd, .int .i64 s1, .int .i64 s2, .int .i64 s3, .int .i64 s4, .int .i64 s5, .int .i64 s6, .int .i64 s7] 42)).alloc (.cells #[.string ⟨#[]⟩, .slice none 0 0, .int .i64 0, .int .i64 0, .int .i64 0, .int .i64 0, .int .i64 0, .int .i64 0, .int .i64 0, .int .i64 0, .int .i64 0] 40) = W := ⟨_, rfl⟩
  have HQ := laid2 w (.cells #[.string tx, .slice ra rn rc, .int .i64 ta, .int .i64 wd, .int .i64 s1, .int .i64 s2, .int .i64 s3, .int .i64 s4, .int .i64 s5, .int .i64 s6, .int .i64 s7] 42) (.cells #[.string ⟨#[]⟩, .slice none 0 0, .int .i64 0, .int .i64 0, .int .i64 0, .int .i64 0, .int .i64 0, .int .i64 0, .int .i64 0, .int .i64 0, .int .i64 0] 40)
  rw [hW] at HQ
  obtain ⟨f0, f1, hB4, hz⟩ := HQ
  obtain ⟨q0, q1, q2, q3, q4, q5, q6, q7, q8, q9, q10⟩ := cells11 f0
  obtain ⟨r0, r1, r2, r3, r4, r5, r6, r7, r8, r9, r10⟩ := cells11 f1
  have z0 := row_free f1 0
  have z1 := row_free f1 1
  have z2 := row_free f1 2
  have z3 := row_free f1 3
  have z4 := row_free f1 4
  have z5 := row_free f1 5
  have z6 := row_free f1 6
  have z7 := row_free f1 7
  have z8 := row_free f1 8
  have z9 := row_free f1 9
  have z10 := row_free f1 10
  have HR := put11_heap f1 (.string tx) (.slice ra rn rc) (.int .i64 ta) (.int .i64 wd) (.int .i64 s1) (.int .i64 s2) (.int .i64 s3) (.int .i64 s4) (.int .i64 s5) (.int .i64 s6) (.int .i64 s7)
  have HG := put11_grown W (w.heap.size + 1) (.string tx) (.slice ra rn rc) (.int .i64 ta) (.int .i64 wd) (.int .i64 s1) (.int .i64 s2) (.int .i64 s3) (.int .i64 s4) (.int .i64 s5) (.int .i64 s6) (.int .i64 s7)
  have HF := hB4.trans (grown_below HG (by omega) hB4.size)
  unfold put11 at HR HF
  replace HR := boxed HR
  replace HF := boxed HF
  clear hB4 HG f0 f1 hz
  go_enter Try.func15, Try.ntmps15
  go_wp2_with fail
  refine bodyPost_ret (v := .agg #[.string tx, .slice ra rn rc, .int .i64 ta, .int .i64 wd, .int .i64 s1, .int .i64 s2, .int .i64 s3, .int .i64 s4, .int .i64 s5, .int .i64 s6, .int .i64 s7]) ?_ ?_ ?_
  · exact results_cell_row Try.results15 _ _ (w.heap.size + 1) 40 _ (0, 0) _ rfl HR.out Try.underlying40 rfl (by kernel_rfl)
  · rfl
  · exact ⟨rfl, HF.out⟩

set_option maxHeartbeats 4000000 in
set_option maxRecDepth 100000 in
theorem fits_any (S : Nat → Prop) (k : Kv) (w : World) (hx : KvAt S w k) :
    Calls Try.prog 21 #[k.val] w fun e w' => ∃ r, e = .returned (.bool r) ∧ (r = true ↔ Fits k) ∧ Below w.heap.size w w' := by
  have HX := boxed hx
  have HT : Box ((k.tx.size ≤ 200 ∧ k.rn ≤ 20 ∧ ∀ i, i < k.rn → k.L i ≤ 1099511627776) ↔ Fits k) := boxed ⟨fun ⟨a, b, c⟩ => ⟨a, b, c⟩, fun h => ⟨h.tx, h.rn, h.L⟩⟩
  generalize Fits k = FT at *
  obtain ⟨tx, ra, rn, rc, ta, wd, ⟨s1, s2, s3, s4, s5, s6, s7⟩, L, Y⟩ := k
  simp only [Kv.val] at *
  obtain ⟨W, hW⟩ : ∃ W, w.alloc (.cells #[.string tx, .slice ra rn rc, .int .i64 ta, .int .i64 wd, .int .i64 s1, .int .i64 s2, .int .i64 s3, .int .i64 s4, .int .i64 s5, .int .i64 s6, .int .i64 s7] 42) = W := ⟨_, rfl⟩
  have HQ := laid1 w (.cells #[.string tx, .slice ra rn rc, .int .i64 ta, .int .i64 wd, .int .i64 s1, .int .i64 s2, .int .i64 s3, .int .i64 s4, .int .i64 s5, .int .i64 s6, .int .i64 s7] 42)
  rw [hW] at HQ
  obtain ⟨f0, hB, hz⟩ := HQ
  obtain ⟨q0, q1, q2, q3, q4, q5, q6, q7, q8, q9, q10⟩ := cells11 f0
  have HB := boxed hB
  clear hx f0 hB hz q2 q3 q4 q5 q6 q7 q8 q9 q10
  by_cases ct : 200 < tx.size
  · have t1 : decide ((200 : Int) < (tx.size : Int)) = true := decide_eq_true (by omega)
    clear q1
    go_enter Try.func21, Try.ntmps21
    go_wp2
    go_ret
    exact ⟨false, rfl, ⟨(fun h => by cases h), fun h => by have := (HT.out.2 h).1; omega⟩, HB.out⟩
  have t1 : decide ((200 : Int) < (tx.size : Int)) = false := decide_eq_false (by omega)
  by_cases cr : 20 < rn
  · have t2 : decide ((20 : Int) < (rn : Int)) = true := decide_eq_true (by omega)
    go_enter Try.func21, Try.ntmps21
    go_wp2
    go_ret
    exact ⟨false, rfl, ⟨(fun h => by cases h), fun h => by have := (HT.out.2 h).2.1; omega⟩, HB.out⟩
  have t2 : decide ((20 : Int) < (rn : Int)) = false := decide_eq_false (by omega)
  go_enter Try.func21, Try.ntmps21
  go_wp2_with fail
  go_loopw [3] (fun vi wr => ∃ i : Nat, i ≤ rn ∧ vi = .int .i64 (i : Nat) ∧ Box (W = wr) ∧ Box (∀ j, j < i → L j ≤ 1099511627776)) (fun vi _ => rn - (intOf vi).toNat)
  case atStart => exact ⟨0, Nat.zero_le _, rfl, boxed rfl, boxed (fun j hj => by omega)⟩
  case round =>
    obtain ⟨i, hi, rfl, ⟨hwr⟩, HS⟩ := hrel
    subst wr
    by_cases hlt : i < rn
    · obtain ⟨b, off, e, -⟩ := HX.out.form (by show 0 < rn; omega)
      simp only at e
      subst e
      obtain ⟨e0, e1⟩ := (HX.out.below HB.out).get i hlt
      simp only at e0 e1
      by_cases cl : 1099511627776 < L i
      · have tl : decide ((1099511627776 : Int) < L i) = true := decide_eq_true cl
        have HN : Box (¬ FT) := boxed (fun h => by have := (HT.out.2 h).2.2 i hlt; omega)
        clear HS HT cl
        generalize L i = l at *
        go_wp2
        go_ret
        exact ⟨false, rfl, ⟨(fun h => by cases h), fun h => absurd h HN.out⟩, HB.out⟩
      · have tl : decide ((1099511627776 : Int) < L i) = false := decide_eq_false cl
        have HS2 : Box (∀ j, j < i + 1 → L j ≤ 1099511627776) := boxed (fun j hj => by
          by_cases d : j = i
          · subst d; omega
          · exact HS.out j (by omega))
        clear HS cl
        generalize L i = l at *
        go_wp2_with fail
        go_roundw
        case rel => exact ⟨i + 1, by omega, by go_num, boxed (by trivial), HS2⟩
        case measure => simp [intOf]; omega
    · obtain rfl : rn = i := by omega
      go_wp2
      go_ret
      exact ⟨true, rfl, ⟨fun _ => HT.out.1 ⟨by omega, by omega, HS.out⟩, fun _ => rfl⟩, HB.out⟩

/-- '==' of settings. -/
def stgB (x y : Stg) : Bool := x.t == y.t && x.l == y.l && x.a == y.a && x.d == y.d && x.z == y.z && x.o == y.o && x.i == y.i
theorem stgB_iff (x y : Stg) : stgB x y = true ↔ x = y := by
  obtain ⟨a1, a2, a3, a4, a5, a6, a7⟩ := x
  obtain ⟨b1, b2, b3, b4, b5, b6, b7⟩ := y
  simp [stgB, and_assoc]
theorem guardS : Try.prog.eqGuardType Try.prog.depth 38 = false := by kernel_rfl
set_option maxHeartbeats 2000000 in
theorem eqStg (x y : Stg) (w : World) : (Op.equalIn 10000 38 (.agg #[.int .i64 x.t, .int .i64 x.l, .int .i64 x.a, .int .i64 x.d, .int .i64 x.z, .int .i64 x.o, .int .i64 x.i]) (.agg #[.int .i64 y.t, .int .i64 y.l, .int .i64 y.a, .int .i64 y.d, .int .i64 y.z, .int .i64 y.o, .int .i64 y.i])).run Try.prog w = .ok (stgB x y) w := by
  obtain ⟨a1, a2, a3, a4, a5, a6, a7⟩ := x
  obtain ⟨b1, b2, b3, b4, b5, b6, b7⟩ := y
  have u3 := Try.underlying3
  have hS : Try.prog.underlying 38 = some (.struct (Try.prog.fieldsOf 38)) := by kernel_rfl
  have hp : Try.prog.stoodInHeld 38 = false := by kernel_rfl
  simp only [stgB]
  rw [show (10000 : Nat) = 9999 + 1 from rfl, run_equalIn_agg w 9999 38 _ _ hS hp]
  simp only [Program.fieldsOf, Try.underlying38]
  go_simp
  by_cases h1 : a1 = b1
  rotate_left
  · simp [h1]
  by_cases h2 : a2 = b2
  rotate_left
  · simp [h1, h2]
  by_cases h3 : a3 = b3
  rotate_left
  · simp [h1, h2, h3]
  by_cases h4 : a4 = b4
  rotate_left
  · simp [h1, h2, h3, h4]
  by_cases h5 : a5 = b5
  rotate_left
  · simp [h1, h2, h3, h4, h5]
  by_cases h6 : a6 = b6
  rotate_left
  · simp [h1, h2, h3, h4, h5, h6]
  by_cases h7 : a7 = b7
  · simp [h1, h2, h3, h4, h5, h6, h7]
  · simp [h1, h2, h3, h4, h5, h6, h7]
theorem eqlStg (x y : Stg) (w : World) : (binOp .eql 38 (.agg #[.int .i64 x.t, .int .i64 x.l, .int .i64 x.a, .int .i64 x.d, .int .i64 x.z, .int .i64 x.o, .int .i64 x.i]) (.agg #[.int .i64 y.t, .int .i64 y.l, .int .i64 y.a, .int .i64 y.d, .int .i64 y.z, .int .i64 y.o, .int .i64 y.i])).run Try.prog w = .ok (.bool (stgB x y)) w := by
  have := eqStg x y w
  rw [run_eql_struct, this]
  rfl
theorem guardStg (op : BinOp) (x y : Operand) (xs ys : Array Value) (w : World) : (eqGuard op 38 x y (.agg xs) (.agg ys)).run Try.prog w = .ok () w := run_eqGuard_agg w op 38 x y xs ys guardS
end Go.Proofs.Ytmnnmnggakbipaa
