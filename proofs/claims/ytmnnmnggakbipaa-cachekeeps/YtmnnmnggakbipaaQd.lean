/-
  What own, ref and fits do with a key.
-/
import Derived.Test.YtmnnmnggakbipaaQc
namespace Go.Proofs.Ytmnnmnggakbipaa
open Go.RowKit
set_option linter.unusedSimpArgs false
set_option linter.unusedVariables false

/-- A key that is tried. -/
structure Fits (k : Kv) : Prop where
  tx : k.tx.size ≤ 200
  rn : k.rn ≤ 20
  L : ∀ i, i < k.rn → k.L i ≤ 1099511627776
def KvAt (S : Nat → Prop) (w : World) (k : Kv) : Prop := P2At S w k.ra k.rn k.L k.Y

set_option maxRecDepth 100000 in
theorem append_rvs {w : World} {ops : Array Oper} {rest : List Oper} {o : Oper} {a : Act} {Q : Exit → Act → World → Prop} (hgd : o.guard = none) (s x : Operand)
    (ho : o.op = .call { callee := .builtin .append, args := #[s, x], argTypes := #[36, 36] })
    (base : Nat) (v : Value) (n : Nat) (xs : List Value) (hs : a.eval s = v) (hown : w.ownsRow base 62 2 v n xs)
    (S : Nat → Prop) (ao : Option Addr) (m c : Nat) (L Y : Nat → Int) (hx : a.eval x = .slice ao m c) (hp : P2At S w ao m L Y)
    (h63 : n + m ≤ 100000) (hbase : base ≤ w.heap.size)
    (h : ∀ v' w', w'.ownsRow base 62 2 v' (n + m) (xs ++ rvs L Y m) → w.grownBy w' v.ownBlock → wpList Try.prog ops Q rest (a.put o.dst v') w') : wpList Try.prog ops Q (o :: rest) a w := by
  obtain ⟨i0, hi, hz0, hz1, hz2⟩ := info_parts info_run
  cases ao with
  | none =>
    have hm : m = 0 := by
      by_cases c : m = 0
      · exact c
      · obtain ⟨b, off, e, -⟩ := hp.form (by omega)
        cases e
    subst hm
    refine wpList_plain hgd fun K hK => ?_
    have hrun := run_append_nothing (P := Try.prog) (w := w) base 36 o.type 62 i0 2 c Try.underlying36 hi v n xs hown
    unfold Oper.wp
    simp [execOp, ho, resolve, invoke, builtin, hs, hx, hrun, Result.andThen]
    exact hK _ _ (h v w (by simpa [rvs] using hown) (World.grownBy.refl _ _))
  | some ad =>
    refine wpList_append_own _ hgd s x 36 ho base 62 i0 _ 2 16 Try.underlying36 hi hz0 hz1 hz2 rfl (by decide) v n xs hs hown ad m c (rvs L Y m) hx (by rw [rvs_len]) ?_ (rvs_one L Y m) (by unfold maxLen; omega) (by omega) hbase (fun v' w' h2 h3 _ => h v' w' h2 h3)
    intro j u hj
    have hl : j < (rvs L Y m).length := (List.getElem?_eq_some_iff.1 hj).1
    rw [rvs_len] at hl
    obtain ⟨p1, p2⟩ := rvs_get L Y m (j / 2) (by omega)
    obtain ⟨-, b, off, e, -, c0, c1⟩ := hp (j / 2) (by omega)
    injection e with e
    subst e
    rw [Addr.add_lit]
    by_cases hp : j % 2 = 0
    · have ej : j = j / 2 * 2 := by omega
      rw [← ej] at p1 c0
      rw [hj] at p1
      rw [c0, p1]
    · have ej : j = j / 2 * 2 + 1 := by omega
      rw [Nat.add_assoc, ← ej] at c1
      rw [← ej] at p2
      rw [hj] at p2
      rw [c1, p2]

set_option maxHeartbeats 4000000 in
set_option maxRecDepth 100000 in
/-- own: the same, in memory of its own. -/
theorem own_any (S : Nat → Prop) (k : Kv) (w : World) (hx : KvAt S w k) (ht : k.tx.size ≤ 140737488351232) (hn : k.rn ≤ 4096) :
    Calls Try.prog 31 #[k.val] w fun e w' => ∃ ao' c', e = .returned { k with ra := ao', rc := c' }.val ∧ w'.ownsRow w.heap.size 62 2 (.slice ao' k.rn c') k.rn (rvs k.L k.Y k.rn) ∧ KvAt (fun b => w.heap.size ≤ b) w' { k with ra := ao', rc := c' } ∧ k.rn ≤ c' ∧ Below w.heap.size w w' := by
  have HI := boxed (fun i hi => (hx i hi).1)
  have HX := boxed hx
  obtain ⟨tx, ra, rn, rc, ta, wd, ⟨s1, s2, s3, s4, s5, s6, s7⟩, L, Y⟩ := k
  simp only [Kv.val] at *
  have HQ := boxed (laid2 w (.cells #[.string tx, .slice ra rn rc, .int .i64 ta, .int .i64 wd, .int .i64 s1, .int .i64 s2, .int .i64 s3, .int .i64 s4, .int .i64 s5, .int .i64 s6, .int .i64 s7] 42) (.cells #[.string ⟨#[]⟩, .slice none 0 0, .int .i64 0, .int .i64 0, .int .i64 0, .int .i64 0, .int .i64 0, .int .i64 0, .int .i64 0, .int .i64 0, .int .i64 0] 42))
  have hc := fun W => clone_any tx W (by omega)
  clear hx
  go_enter Try.func31, Try.ntmps31
  go_wp2_with fail
  refine (hc _).mono ?_
  rintro e w1 ⟨rfl, hb1⟩
  rw [HQ.out.2.2.2] at hb1
  have e0 := (hb1.block w.heap.size (by omega)).trans HQ.out.1
  have e1 := (hb1.block (w.heap.size + 1) (by omega)).trans HQ.out.2.1
  have HB1 := boxed (HQ.out.2.2.1.trans (hb1.mono (by omega)))
  obtain ⟨c0, c1, c2, c3, c4, c5, c6, c7, c8, c9, c10⟩ := cells11 e0
  have cf0 := row_free e0 0
  obtain ⟨W2, hW2⟩ : ∃ W2, w1.setCell ⟨w.heap.size, 0, none⟩ (.string tx) = W2 := ⟨_, rfl⟩
  have f0 : W2.heap[w.heap.size]? = some (.cells #[.string tx, .slice ra rn rc, .int .i64 ta, .int .i64 wd, .int .i64 s1, .int .i64 s2, .int .i64 s3, .int .i64 s4, .int .i64 s5, .int .i64 s6, .int .i64 s7] 42 (0, 0)) := by rw [← hW2]; exact arr_set _ e0
  have f1 : W2.heap[w.heap.size + 1]? = some (.cells #[.string ⟨#[]⟩, .slice none 0 0, .int .i64 0, .int .i64 0, .int .i64 0, .int .i64 0, .int .i64 0, .int .i64 0, .int .i64 0, .int .i64 0, .int .i64 0] 42 (0, 0)) := by rw [← hW2, Below.heap_setCell _ _ _ _ (by simp)]; exact e1
  have HB2 := boxed (show Below w.heap.size w W2 by rw [← hW2]; exact HB1.out.setCell (Nat.le_refl _) _)
  have E0 := boxed f0
  have E1 := boxed f1
  have HX2 := boxed (HX.out.below HB2.out)
  have hz2 := heap_lt f1
  obtain ⟨d0, d1, d2, d3, d4, d5, d6, d7, d8, d9, d10⟩ := cells11 f0
  have HNil := boxed (World.ownsRow_nil W2 W2.heap.size 62 2)
  clear hb1 e0 e1 HB1 hc f0 f1
  go_wp2_with (at_builtin; refine append_rvs rfl _ _ rfl W2.heap.size _ 0 [] rfl HNil.out S ra rn rc L Y rfl HX2.out ?qa ?qb ?_)
  case qa => omega
  case qb => exact Nat.le_refl _
  intro v' w3 hown hgrow
  have ho : w3.ownsRow W2.heap.size 62 2 v' rn (rvs L Y rn) := by simpa using hown
  obtain ⟨ao', cc, rfl⟩ := own_shape ho
  have hb3 : Below W2.heap.size W2 w3 := (Below.refl _ _).grown hgrow (Nat.le_refl _) (by intro k hk; simp [Value.ownBlock] at hk)
  have e0 := (hb3.block w.heap.size (by omega)).trans E0.out
  have e1 := (hb3.block (w.heap.size + 1) (by omega)).trans E1.out
  have HB3 := boxed (below_step HB2.out (Nat.le_refl _) hb3)
  obtain ⟨p0, p1, p2, p3, p4, p5, p6, p7, p8, p9, p10⟩ := cells11 e0
  have pf1 := row_free e0 1
  obtain ⟨W4, hW4⟩ : ∃ W4, w3.setCell ⟨w.heap.size, 1, none⟩ (.slice ao' rn cc) = W4 := ⟨_, rfl⟩
  have f0 : W4.heap[w.heap.size]? = some (.cells #[.string tx, .slice ao' rn cc, .int .i64 ta, .int .i64 wd, .int .i64 s1, .int .i64 s2, .int .i64 s3, .int .i64 s4, .int .i64 s5, .int .i64 s6, .int .i64 s7] 42 (0, 0)) := by rw [← hW4]; exact arr_set _ e0
  have f1 : W4.heap[w.heap.size + 1]? = some (.cells #[.string ⟨#[]⟩, .slice none 0 0, .int .i64 0, .int .i64 0, .int .i64 0, .int .i64 0, .int .i64 0, .int .i64 0, .int .i64 0, .int .i64 0, .int .i64 0] 42 (0, 0)) := by rw [← hW4, Below.heap_setCell _ _ _ _ (by simp)]; exact e1
  have hB4 : Below w.heap.size w W4 := by rw [← hW4]; exact HB3.out.setCell (Nat.le_refl _) _
  have hO4 : W4.ownsRow W2.heap.size 62 2 (.slice ao' rn cc) rn (rvs L Y rn) := by rw [← hW4]; exact ownsRow_setCell_below ho (by simp only; omega) _
  obtain ⟨q0, q1, q2, q3, q4, q5, q6, q7, q8, q9, q10⟩ := cells11 f0
  obtain ⟨r0, r1, r2, r3, r4, r5, r6, r7, r8, r9, r10⟩ := cells11 f1
  have z0 := row_free f1 0
  have z1 := row_free f1 1
  have z2 := row_free f1 2
  have z3 := row_free f1 3
  have z4 := row_free f1 4
  have z5 := row_free f1 5
  have z6 := row_free f1 6
  have z7 := row_free f1 7
  have z8 := row_free f1 8
  have z9 := row_free f1 9
  have z10 := row_free f1 10
  have HR := put11_heap f1 (.string tx) (.slice ao' rn cc) (.int .i64 ta) (.int .i64 wd) (.int .i64 s1) (.int .i64 s2) (.int .i64 s3) (.int .i64 s4) (.int .i64 s5) (.int .i64 s6) (.int .i64 s7)
  have HG := put11_grown W4 (w.heap.size + 1) (.string tx) (.slice ao' rn cc) (.int .i64 ta) (.int .i64 wd) (.int .i64 s1) (.int .i64 s2) (.int .i64 s3) (.int .i64 s4) (.int .i64 s5) (.int .i64 s6) (.int .i64 s7)
  have HF := hB4.trans (grown_below HG (by omega) hB4.size)
  have HO := hO4.kept HG (by
    right
    intro c
    have := (hO4.lt _ c).1
    omega)
  have HO5 := own_down HO (show w.heap.size ≤ W2.heap.size by omega)
  have hcap : rn ≤ cc := by
    rcases HO5.2 with ⟨e, h0⟩ | ⟨g, cap, cur, e, _, _, h1, _⟩
    · omega
    · injection e with _ _ e3; omega
  unfold put11 at HR HF HO5
  replace HR := boxed HR
  replace HF := boxed HF
  replace HO5 := boxed HO5
  clear hb3 e0 e1 HB2 HB3 ho hB4 hO4 HO HG f0 f1 E0 E1 c0 c1 c2 c3 c4 c5 c6 c7 c8 c9 c10 d0 d1 d2 d3 d4 d5 d6 d7 d8 d9 d10 hown hgrow HNil HX2 HX
  go_wp2_with fail
  refine bodyPost_ret (v := .agg #[.string tx, .slice ao' rn cc, .int .i64 ta, .int .i64 wd, .int .i64 s1, .int .i64 s2, .int .i64 s3, .int .i64 s4, .int .i64 s5, .int .i64 s6, .int .i64 s7]) ?_ ?_ ?_
  · exact results_cell_row Try.results31 _ _ (w.heap.size + 1) 42 _ (0, 0) _ rfl HR.out Try.underlying42 rfl (by kernel_rfl)
  · rfl
  · exact ⟨_, _, rfl, HO5.out, own_rvs HO5.out HI.out, hcap, HF.out⟩
end Go.Proofs.Ytmnnmnggakbipaa
