/-
  What slices.Delete does with a row of marks.
-/
import Derived.Test.YtdaccgnfhagoeaaMkf
import Derived.Lib.SlicesDelete
namespace Go.Proofs.Ytdaccgnfhagoeaa
open Go.RowKit
set_option linter.unusedSimpArgs false
set_option linter.unusedVariables false

/-- The row's cells behind a row of stores. -/
theorem setCells_heap (g : Nat) (T : TypeId) : ∀ (vs : List Value) (o : Nat) (w : World) (cur : Array Value), w.heap[g]? = some (.cells cur T (0, 0)) → (w.setCells g o vs).heap[g]? = some (.cells (Lib.lay cur o vs) T (0, 0))
  | [], _, _, _, h => h
  | v :: r, o, w, cur, h => by
    rw [World.setCells, Lib.lay]
    refine setCells_heap g T r (o + 1) _ _ ?_
    have := arr_set (k := o) v h
    simpa using this
theorem setCells_grown (g : Nat) : ∀ (vs : List Value) (o : Nat) (w : World), w.grownBy (w.setCells g o vs) (some g)
  | [], _, w => World.grownBy.refl w _
  | v :: r, o, w => grown_trans (grown_set w g o v) (setCells_grown g r (o + 1) _)
theorem lay_len : ∀ (xs : List Value) (d : Array Value) (k : Nat), (Lib.lay d k xs).size = d.size
  | [], _, _ => rfl
  | x :: r, d, k => by rw [Lib.lay, lay_len r]; simp
/-- What the row holds behind the deletion. -/
theorem erased3 (cur : Array Value) (L : List Mk) (m i : Nat) (z : List Value) (hz : z.length = 3) (hx : cur.toList.take ((m + 1) * 3) = mcs L) (hl : L.length = m + 1) (hi : i ≤ m) :
    (Lib.lay (Lib.lay cur (i * 3) ((mcs L).drop ((i + 1) * 3))) (m * 3) z).toList.take (m * 3) = mcs (L.eraseIdx i) := by
  have hc : (m + 1) * 3 ≤ cur.size := by
    have : (cur.toList.take ((m + 1) * 3)).length = (m + 1) * 3 := by rw [hx, mcs_len, hl]
    simp at this; omega
  have hll : (mcs L).length = (m + 1) * 3 := by rw [mcs_len, hl]
  have l2 : ((mcs L).drop ((i + 1) * 3)).length = (m - i) * 3 := by simp [hll]; omega
  have he : mcs (L.eraseIdx i) = (mcs L).take (i * 3) ++ (mcs L).drop ((i + 1) * 3) := by rw [List.eraseIdx_eq_take_drop_succ, mcs_app, mcs_take, mcs_drop]
  rw [he]
  apply List.ext_getElem?
  intro t
  have hget : ∀ t, t < (m + 1) * 3 → cur[t]? = (mcs L)[t]? := fun t ht => by rw [← hx, List.getElem?_take, if_pos ht, Array.getElem?_toList]
  have hlt : ((mcs L).take (i * 3)).length = i * 3 := by simp [hll]; omega
  rw [List.getElem?_take, List.getElem?_append, hlt]
  by_cases ct : t < m * 3
  · rw [if_pos ct, Array.getElem?_toList, Lib.lay_get? _ _ _ _ (by rw [lay_len, hz]; omega), if_neg (by omega), Lib.lay_get? _ _ _ _ (by rw [l2]; omega), l2]
    by_cases c1 : t < i * 3
    · rw [if_neg (by omega), if_pos c1, hget t (by omega), List.getElem?_take, if_pos c1]
    · rw [if_pos (by omega), if_neg c1]
  · rw [if_neg ct, if_neg (by omega), List.getElem?_eq_none (by rw [l2]; omega)]
/-- One mark cleared. -/
theorem run_clear3 (w : World) (g m c : Nat) (cs : Array Value) (ty : TypeId) (hg : w.heap[g]? = some (.cells cs 36 (0, 0))) (hc : m + 3 ≤ cs.size) :
    (Builtin.clear_ #[42] ty #[.slice (some ⟨g, m, none⟩) 1 c]).run Try.prog w = .ok (.tuple #[]) (w.setCells g m [.int .i64 0, .int .i64 0, .bool false]) := by
  obtain ⟨i0, hi, hz0, hz1, hz2⟩ := info_parts info_mark
  have hz : (Builtin.zeroCells (Value.agg #[.int .i64 0, .int .i64 0, .bool false]).cells 1).toList = [.int .i64 0, .int .i64 0, .bool false] := by kernel_rfl
  have hst := run_storeCells_cells (P := Try.prog) g m [.int .i64 0, .int .i64 0, .bool false] 0 w (fun j hj => by rw [cell_of_row _ _ _ _ _ _ hg, Array.getElem?_eq_getElem (by simp at hj; omega)]; rfl) (fun j hj => row_free hg _) (bytes_one 0 0 false)
  simp only [Nat.add_zero] at hst
  simp [Builtin.clear_, run_underlying Try.underlying42, zeroValue, typeInfo, hi, hz0, hz, hst]

set_option maxHeartbeats 4000000 in
set_option maxRecDepth 1000000 in
theorem delslice_any (g m cap i : Nat) (cur : Array Value) (L : List Mk) (B : Nat) (hB : B ≤ g) (w : World) (hg : w.heap[g]? = some (.cells cur 36 (0, 0))) (hcs : cur.size = cap * 3) (hxs : cur.toList.take ((m + 1) * 3) = mcs L) (hl : L.length = m + 1) (hcap : m + 1 ≤ cap) (hmx : cap ≤ maxLen) (him : i ≤ m) :
    Calls Try.prog 38 #[.slice (some ⟨g, 0, none⟩) (m + 1) cap, .int .i64 (i : Nat), .int .i64 ((i : Int) + 1)] w fun e w' => e = .returned (.slice (some ⟨g, 0, none⟩) m cap) ∧ w'.ownsRow B 36 3 (.slice (some ⟨g, 0, none⟩) m cap) m (mcs (L.eraseIdx i)) ∧ w.grownBy w' (some g) := by
  have hlx : (mcs L).length = (m + 1) * 3 := by rw [mcs_len, hl]
  have h1c := mcs_one L
  obtain ⟨i0, hi0, hz0, hz1, hz2⟩ := info_parts info_mark
  have t22 := Try.underlying42
  unfold maxLen at hmx
  have hcell : ∀ t, t < cap * 3 → (w.drew.cell? ⟨g, t, none⟩).isSome = true ∧ w.drew.frozen? ⟨g, t, none⟩ = false := fun t ht => by
    refine ⟨?_, row_free hg t⟩
    show (w.cell? _).isSome = true
    rw [cell_of_row w g t cur _ _ hg, Array.getElem?_eq_getElem (by omega)]; rfl
  obtain ⟨news, hnews⟩ : ∃ news, news = (mcs L).drop ((i + 1) * 3) := ⟨_, rfl⟩
  have hlen : news.length = (m - i) * 3 := by rw [hnews]; simp [hlx]; omega
  have hget : ∀ t, t < (m - i) * 3 → news[t]? = (mcs L)[(i + 1) * 3 + t]? := fun t ht => by rw [hnews, List.getElem?_drop]
  have hxget : ∀ t, t < (m + 1) * 3 → w.drew.cell? ⟨g, t, none⟩ = (mcs L)[t]? := fun t ht => by
    show w.cell? _ = _
    rw [cell_of_row w g t cur _ _ hg, ← hxs, List.getElem?_take, if_pos ht, Array.getElem?_toList]
  obtain ⟨A, hA, hsrc⟩ : ∃ A : Addr, (if cap = i + 1 then some (⟨g, 0, none⟩ : Addr) else some ⟨g, (i + 1) * 3, none⟩) = some A ∧ Hid (∀ t u, news[t]? = some u → w.drew.cell? (A.add t) = some u) := by
    by_cases h : cap = i + 1
    · refine ⟨⟨g, 0, none⟩, by simp [h], fun t u hu => ?_⟩
      have h0 : news.length = 0 := by rw [hlen]; omega
      rw [List.length_eq_zero_iff.1 h0] at hu
      simp at hu
    · refine ⟨⟨g, (i + 1) * 3, none⟩, by simp [h], fun t u hu => ?_⟩
      have ht : t < (m - i) * 3 := by
        have := (List.getElem?_eq_some_iff.1 hu).1
        rwa [hlen] at this
      rw [Addr.add_lit, hxget _ (by omega), ← hget t ht]
      exact hu
  have s1 : Hid (news.length = (m - i) * 3) := hlen
  have s2 : Hid (∀ u ∈ news, u.oneCell' = true) := fun u hu => h1c u (by rw [hnews] at hu; exact List.mem_of_mem_drop hu)
  have s3 : Hid (∀ t, t < news.length → (w.drew.cell? ⟨g, 0 + i * 3 + t, none⟩).isSome = true ∧ w.drew.frozen? ⟨g, 0 + i * 3 + t, none⟩ = false) := by
    intro t ht
    rw [hlen] at ht
    exact hcell _ (by omega)
  obtain ⟨W1, hW1⟩ : ∃ W1, W1 = w.drew.setCells g (0 + i * 3) news := ⟨_, rfl⟩
  have hg1 : W1.heap[g]? = some (.cells (Lib.lay cur (i * 3) news) 36 (0, 0)) := by
    rw [hW1, Nat.zero_add]
    exact setCells_heap g _ news (i * 3) w.drew cur hg
  have hgr1 : w.grownBy W1 (some g) := by
    rw [hW1]
    exact grown_trans (b := w.drew) ⟨rfl, rfl, rfl, Nat.le_refl _, fun _ _ _ => rfl⟩ (setCells_grown g news _ w.drew)
  have hcl : ∀ ty, (Builtin.clear_ #[42] ty #[.slice (some ⟨g, m * 3, none⟩) 1 (cap - m)]).run Try.prog W1 = .ok (.tuple #[]) (W1.setCells g (m * 3) [.int .i64 0, .int .i64 0, .bool false]) :=
    fun ty => run_clear3 W1 g (m * 3) (cap - m) _ ty hg1 (by rw [lay_len]; omega)
  have HF : Box ((W1.setCells g (m * 3) [.int .i64 0, .int .i64 0, .bool false]).ownsRow B 36 3 (.slice (some ⟨g, 0, none⟩) m cap) m (mcs (L.eraseIdx i)) ∧ w.grownBy (W1.setCells g (m * 3) [.int .i64 0, .int .i64 0, .bool false]) (some g)) := boxed (by
    refine ⟨⟨by rw [mcs_len, List.length_eraseIdx]; split <;> omega, .inr ⟨g, cap, _, rfl, hB, setCells_heap g _ _ (m * 3) W1 _ hg1, by omega, by unfold maxLen; omega, ?_, ?_⟩⟩, grown_trans hgr1 (setCells_grown g _ (m * 3) W1)⟩
    · rw [lay_len, lay_len, hcs]
    · rw [hnews]; exact erased3 cur L m i _ rfl hxs hl him)
  have hW : Hid (W1 = w.drew.setCells g (0 + i * 3) news) := hW1
  have hic : i ≤ cap := by omega
  have hjc : i + 1 ≤ cap := by omega
  have hj1 : i + 1 ≤ m + 1 := by omega
  clear hW1 hg1 hgr1 hg hget hnews hlen hxget hcell h1c hxs hlx
  go_enter Try.func38, Try.ntmps38
  go_wp2_with fail
  have hmi : i + (m - i) = m := by omega
  have hp0 : (0 : Int) ≤ (i : Int) + 1 := by omega
  go_region_law (refine step_append_room rfl (.tmp 22) (.tmp 25) 42 rfl 36 i0 3 t22 hi0 hz1 g 0 i cap (by simp [Act.eval, Act.put]) A (m - i) (cap - (i + 1)) news (by simp [Act.eval, Act.put]) s1.out hsrc.out s2.out (by omega) s3.out ?_; rw [← hW.out])
  have hm1 : m + 1 - m = 1 := by omega
  have hmc : m ≤ cap := by omega
  go_wp2
  go_ret
  exact ⟨rfl, HF.out.1, HF.out.2⟩
end Go.Proofs.Ytdaccgnfhagoeaa
