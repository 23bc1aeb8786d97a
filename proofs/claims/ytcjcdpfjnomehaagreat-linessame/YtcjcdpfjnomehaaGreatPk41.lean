/-
  What the program's Copy makes of a line: the same, in memory of its own.
-/
import Derived.Test.YtcjcdpfjnomehaaGreatPk22
import Derived.Test.YtcjcdpfjnomehaaGreatPk9
import Derived.Test.YtcjcdpfjnomehaaGreatPk27
import Derived.Test.YtcjcdpfjnomehaaGreatPk24
import Derived.Test.YtcjcdpfjnomehaaGreatPk32
namespace Go.Proofs.YtcjcdpfjnomehaaGreat
open Go.RowKit
set_option linter.unusedSimpArgs false
set_option linter.unusedVariables false
def rvs (L Y : Nat → Int) : Nat → List Value
  | 0 => []
  | k + 1 => rvs L Y k ++ [.int .i64 (L k), .int .i64 (Y k)]
theorem rvs_len (L Y : Nat → Int) (n : Nat) : (rvs L Y n).length = n * 2 := by
  induction n with
  | zero => rfl
  | succ n ih => simp [rvs, ih]; omega
theorem rvs_get (L Y : Nat → Int) (n i : Nat) (h : i < n) : (rvs L Y n)[i * 2]? = some (.int .i64 (L i)) ∧ (rvs L Y n)[i * 2 + 1]? = some (.int .i64 (Y i)) := by
  induction n with
  | zero => omega
  | succ n ih =>
    have hl := rvs_len L Y n
    simp only [rvs]
    by_cases c : i < n
    · rw [List.getElem?_append_left (by omega), List.getElem?_append_left (by omega)]
      exact ih c
    · obtain rfl : i = n := by omega
      rw [List.getElem?_append_right (by omega), List.getElem?_append_right (by omega), hl]
      simp
theorem rvs_one (L Y : Nat → Int) (n : Nat) : ∀ u ∈ rvs L Y n, u.oneCell' = true := by
  induction n with
  | zero => intro u hu; simp [rvs] at hu
  | succ n ih =>
    intro u hu
    simp only [rvs, List.mem_append] at hu
    rcases hu with hu | hu
    · exact ih u hu
    · simp at hu; rcases hu with rfl | rfl <;> rfl
theorem own_rvs {w : World} {B n cap : Nat} {ao : Option Addr} {L Y : Nat → Int} (h : w.ownsRow B 61 2 (.slice ao n cap) n (rvs L Y n)) (hi : ∀ i, i < n → Ru.I64 (L i) ∧ Ru.I64 (Y i)) : Ru.P2At (fun b => B ≤ b) w ao n L Y := by
  intro i hin
  rcases ownsRow_forms h with ⟨e, h0⟩ | ⟨g, cp, e⟩
  · omega
  · injection e with e1 e2 e3
    subst e1
    have g := rvs_get L Y n i hin
    refine ⟨hi i hin, _, 0, rfl, (h.lt _ rfl).1, ?_, ?_⟩
    · rw [Nat.zero_add, h.cellAt (i * 2) (by omega)]; exact g.1
    · rw [Nat.zero_add, h.cellAt (i * 2 + 1) (by omega)]; exact g.2
set_option maxHeartbeats 2000000 in
set_option maxRecDepth 100000 in
theorem cloneR_any (S : Nat → Prop) (ao : Option Addr) (n c : Nat) (L Y : Nat → Int) (w : World) (h : Ru.P2At S w ao n L Y) (hm : n ≤ 262144) :
    Calls Tryz.prog 82 #[.slice ao n c] w fun e w' => ∃ ao' c', e = .returned (.slice ao' n c') ∧ w'.ownsRow w.heap.size 61 2 (.slice ao' n c') n (rvs L Y n) ∧ Below w.heap.size w w' := by
  obtain ⟨i0, hi, hz0, hz1, hz2⟩ := info_parts Ru.info_run
  have q22 : ∀ (w : World) (a : Option Addr) (n c n' c' : Nat), (binOp .eql 23 (.slice a n c) (.slice none n' c')).run Tryz.prog w = .ok (.bool a.isNone) w := fun w a n c n' c' => Lib.run_eql_slice_nil w _ _ a n c n' c' Tryz.underlying23
  have u22 : ∀ w, Sem.run Tryz.prog (underlying 23) w = .ok (TypeDesc.slice 61) w := run_underlying Tryz.underlying23
  cases ao with
  | none =>
    have h0 : n = 0 := by
      by_cases c : n = 0
      · exact c
      · obtain ⟨-, b, off, e, -⟩ := h 0 (by omega)
        cases e
    subst h0
    clear h
    go_enter Tryz.func82, Tryz.ntmps82
    go_wp2_with fail
    go_ret
    exact ⟨_, _, rfl, World.ownsRow_nil _ _ _ _, Below.refl _ _⟩
  | some ad =>
    have HC : Box (∀ W, Below w.heap.size w W → ∀ j u, (rvs L Y n)[j]? = some u → W.cell? (ad.add j) = some u) := boxed (by
      intro W hb j u hj
      have hl : j < (rvs L Y n).length := (List.getElem?_eq_some_iff.1 hj).1
      rw [rvs_len] at hl
      obtain ⟨p1, p2⟩ := rvs_get L Y n (j / 2) (by omega)
      obtain ⟨-, b, off, e, -, c0, c1⟩ := (h.below hb) (j / 2) (by omega)
      injection e with e
      subst e
      rw [Addr.add_lit]
      by_cases hp : j % 2 = 0
      · have ej : j = j / 2 * 2 := by omega
        rw [← ej] at p1 c0
        rw [hj] at p1
        rw [c0, p1]
      · have ej : j = j / 2 * 2 + 1 := by omega
        rw [Nat.add_assoc, ← ej] at c1
        rw [← ej] at p2
        rw [hj] at p2
        rw [c1, p2])
    clear h
    by_cases h0 : n = 0
    · subst h0
      have hb1 : Below w.heap.size w (w.alloc (.cells #[] 61)) := (Below.refl _ w).alloc (Nat.le_refl _) _
      have hmade := World.ownsRow_made (base := w.heap.size) (e := 61) (size := 2) w #[] 0 (Nat.le_refl _) (Nat.zero_le _) rfl
      go_enter Tryz.func82, Tryz.ntmps82
      go_wp2_with fail
      go_ret
      exact ⟨_, _, rfl, hmade, hb1⟩
    · go_enter Tryz.func82, Tryz.ntmps82
      go_wp2_with (at_builtin; refine wpList_append_own _ rfl _ _ 23 rfl w.heap.size 61 i0 _ 2 16 Tryz.underlying23 hi hz0 hz1 hz2 rfl (by decide) _ _ _ rfl (World.ownsRow_made w #[] 0 (Nat.le_refl _) (Nat.zero_le _) rfl) ad n c (rvs L Y n) rfl ?qc1 ?qc2 ?qc3 ?qc4 ?qc5 ?qc6 ?_)
      case qc1 => rw [rvs_len]
      case qc2 => exact HC.out _ ((Below.refl _ w).alloc (Nat.le_refl _) _)
      case qc3 => exact rvs_one _ _ _
      case qc4 => unfold maxLen; omega
      case qc5 => omega
      case qc6 => simp
      intro v' w1 hown hgrow hnil
      have hown2 : w1.ownsRow w.heap.size 61 2 v' n (rvs L Y n) := by simpa using hown
      obtain ⟨ao', c', rfl⟩ := own_shape hown2
      have HO := boxed hown2
      have HB := boxed (((Below.refl _ w).alloc (Nat.le_refl _) _).grown hgrow (by simp) (by intro k hk; simp [Value.ownBlock] at hk; omega))
      clear hown hown2 hgrow hnil
      go_wp2
      go_ret
      exact ⟨ao', c', rfl, HO.out, HB.out⟩
set_option maxHeartbeats 4000000 in
set_option maxRecDepth 100000 in
theorem copy10_any (S : Nat → Prop) (x : Lne) (w : World) (hx : Ru.P2At S w x.ra x.rn x.L x.Y) (ht : x.tx.size ≤ 140737488351232) (hn : x.rn ≤ 262144) :
    Calls Tryz.prog 31 #[x.val] w fun e w' => ∃ ao' c', e = .returned (.agg #[.string x.tx, .slice ao' x.rn c', .int .i64 x.num, .int .i64 x.den, .int .i64 x.h, .bool x.hy, .int .i64 x.y, .bool x.bg, .bool x.en]) ∧ w'.ownsRow w.heap.size 61 2 (.slice ao' x.rn c') x.rn (rvs x.L x.Y x.rn) ∧ Below w.heap.size w w' := by
  have HQ := boxed (laid2 w (.cells #[.string x.tx, .slice x.ra x.rn x.rc, .int .i64 x.num, .int .i64 x.den, .int .i64 x.h, .bool x.hy, .int .i64 x.y, .bool x.bg, .bool x.en] 59) (.cells #[.string ⟨#[]⟩, .slice none 0 0, .int .i64 0, .int .i64 0, .int .i64 0, .bool false, .int .i64 0, .bool false, .bool false] 59))
  have hc := fun W => clone10_any x.tx W (by omega)
  have HC := boxed (fun W (hb : Below w.heap.size w W) => cloneR_any S x.ra x.rn x.rc x.L x.Y W (hx.below hb) hn)
  unfold Lne.val
  clear hx
  go_enter Tryz.func31, Tryz.ntmps31
  go_wp2_with fail
  refine (hc _).mono ?_
  rintro e w1 ⟨rfl, hb1⟩
  rw [HQ.out.2.2.2] at hb1
  have e0 := (hb1.block w.heap.size (by omega)).trans HQ.out.1
  have e1 := (hb1.block (w.heap.size + 1) (by omega)).trans HQ.out.2.1
  have HB1 := boxed (HQ.out.2.2.1.trans (hb1.mono (by omega)))
  obtain ⟨⟨c0, c1, c2, c3, c4, c5, c6, c7, c8⟩, cf⟩ := cells9 e0
  obtain ⟨W2, hW2⟩ : ∃ W2, w1.setCell ⟨w.heap.size, 0, none⟩ (.string x.tx) = W2 := ⟨_, rfl⟩
  have E0 := boxed (show W2.heap[w.heap.size]? = some (.cells #[.string x.tx, .slice x.ra x.rn x.rc, .int .i64 x.num, .int .i64 x.den, .int .i64 x.h, .bool x.hy, .int .i64 x.y, .bool x.bg, .bool x.en] 59 (0, 0)) by rw [← hW2]; exact arr_set _ e0)
  have E1 := boxed (show W2.heap[w.heap.size + 1]? = some (.cells #[.string ⟨#[]⟩, .slice none 0 0, .int .i64 0, .int .i64 0, .int .i64 0, .bool false, .int .i64 0, .bool false, .bool false] 59 (0, 0)) by rw [← hW2, Below.heap_setCell _ _ _ _ (by simp)]; exact e1)
  have HB2 := boxed (show Below w.heap.size w W2 by rw [← hW2]; exact HB1.out.setCell (Nat.le_refl _) _)
  obtain ⟨⟨d0, d1, d2, d3, d4, d5, d6, d7, d8⟩, df⟩ := cells9 E0.out
  have hcr := HC.out _ HB2.out
  clear hb1 e0 e1 HB1 hc HC
  go_wp2_with fail
  refine hcr.mono ?_
  rintro e w3 ⟨ao', cc, rfl, ho, hb3⟩
  have hzl := heap_lt E1.out
  have e0 := (hb3.block w.heap.size (by omega)).trans E0.out
  have e1 := (hb3.block (w.heap.size + 1) (by omega)).trans E1.out
  have HB3 := boxed (below_step HB2.out (Nat.le_refl _) hb3)
  obtain ⟨⟨p0, p1, p2, p3, p4, p5, p6, p7, p8⟩, pf⟩ := cells9 e0
  have pf1 := row_free e0 1
  obtain ⟨W4, hW4⟩ : ∃ W4, w3.setCell ⟨w.heap.size, 1, none⟩ (.slice ao' x.rn cc) = W4 := ⟨_, rfl⟩
  have f0 : W4.heap[w.heap.size]? = some (.cells #[.string x.tx, .slice ao' x.rn cc, .int .i64 x.num, .int .i64 x.den, .int .i64 x.h, .bool x.hy, .int .i64 x.y, .bool x.bg, .bool x.en] 59 (0, 0)) := by rw [← hW4]; exact arr_set _ e0
  have f1 : W4.heap[w.heap.size + 1]? = some (.cells #[.string ⟨#[]⟩, .slice none 0 0, .int .i64 0, .int .i64 0, .int .i64 0, .bool false, .int .i64 0, .bool false, .bool false] 59 (0, 0)) := by rw [← hW4, Below.heap_setCell _ _ _ _ (by simp)]; exact e1
  have hB4 : Below w.heap.size w W4 := by rw [← hW4]; exact HB3.out.setCell (Nat.le_refl _) _
  have hO4 : W4.ownsRow W2.heap.size 61 2 (.slice ao' x.rn cc) x.rn (rvs x.L x.Y x.rn) := by rw [← hW4]; exact ownsRow_setCell_below ho (by simp only; omega) _
  have F0 := boxed f0
  have F1 := boxed f1
  obtain ⟨⟨q0, q1, q2, q3, q4, q5, q6, q7, q8⟩, -⟩ := cells9 f0
  obtain ⟨⟨r0, r1, r2, r3, r4, r5, r6, r7, r8⟩, z0, z1, z2, z3, z4, z5, z6, z7, z8⟩ := cells9 f1
  have HR := put9_heap f1 (.string x.tx) (.slice ao' x.rn cc) (.int .i64 x.num) (.int .i64 x.den) (.int .i64 x.h) (.bool x.hy) (.int .i64 x.y) (.bool x.bg) (.bool x.en)
  have HG := put9_grown W4 (w.heap.size + 1) (.string x.tx) (.slice ao' x.rn cc) (.int .i64 x.num) (.int .i64 x.den) (.int .i64 x.h) (.bool x.hy) (.int .i64 x.y) (.bool x.bg) (.bool x.en)
  have HF := hB4.trans (grown_below HG (by omega) hB4.size)
  have HO := hO4.kept HG (by
    right
    intro c
    have := (hO4.lt _ c).1
    omega)
  have HO5 := own_down HO (show w.heap.size ≤ W2.heap.size by omega)
  unfold put9 at HR HF HO5
  replace HR := boxed HR
  replace HF := boxed HF
  replace HO5 := boxed HO5
  clear hb3 e0 e1 HB2 HB3 ho hB4 hO4 HO HG f0 f1 E0 E1 c0 c1 c2 c3 c4 c5 c6 c7 c8 d0 d1 d2 d3 d4 d5 d6 d7 d8 cf df hcr
  go_wp2_with fail
  refine bodyPost_ret (v := .agg #[.string x.tx, .slice ao' x.rn cc, .int .i64 x.num, .int .i64 x.den, .int .i64 x.h, .bool x.hy, .int .i64 x.y, .bool x.bg, .bool x.en]) ?_ ?_ ?_
  · exact results_cell_row Tryz.results31 _ _ (w.heap.size + 1) 59 _ (0, 0) _ rfl HR.out Tryz.underlying59 rfl (by kernel_rfl)
  · rfl
  · exact ⟨_, _, rfl, HO5.out, HF.out⟩
end Go.Proofs.YtcjcdpfjnomehaaGreat
