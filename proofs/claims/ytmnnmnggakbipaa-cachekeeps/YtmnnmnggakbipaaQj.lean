/-
  What slices.Delete does with a row of pointers.
-/
import Derived.Test.YtmnnmnggakbipaaQi
namespace Go.Proofs.Ytmnnmnggakbipaa
open Go.RowKit
set_option linter.unusedSimpArgs false
set_option linter.unusedVariables false

theorem lay_len : ∀ (xs : List Value) (d : Array Value) (k : Nat), (Lib.lay d k xs).size = d.size
  | [], _, _ => rfl
  | x :: r, d, k => by rw [Lib.lay, lay_len r]; simp
/-- What the row holds behind the deletion. -/
theorem erased (cur : Array Value) (xs : List Value) (m i : Nat) (z : Value) (hx : cur.toList.take (m + 1) = xs) (hl : xs.length = m + 1) (hi : i ≤ m) :
    (Lib.lay (Lib.lay cur i (xs.drop (i + 1))) m [z]).toList.take m = xs.eraseIdx i := by
  have hc : m + 1 ≤ cur.size := by
    have : (cur.toList.take (m + 1)).length = m + 1 := by rw [hx, hl]
    simp at this; omega
  have l2 : (xs.drop (i + 1)).length = m - i := by simp; omega
  apply List.ext_getElem?
  intro t
  rw [List.getElem?_take, List.getElem?_eraseIdx]
  have hget : ∀ t, t < m + 1 → cur[t]? = xs[t]? := fun t ht => by rw [← hx, List.getElem?_take, if_pos ht, Array.getElem?_toList]
  by_cases ct : t < m
  · rw [if_pos ct, Array.getElem?_toList, Lib.lay_get? _ _ _ _ (by rw [lay_len]; simp; omega), if_neg (by simp; omega), Lib.lay_get? _ _ _ _ (by rw [l2]; omega), l2]
    by_cases c1 : t < i
    · rw [if_neg (by omega), if_pos c1, hget t (by omega)]
    · rw [if_pos (by omega), if_neg c1, List.getElem?_drop]
      congr 1; omega
  · rw [if_neg ct]
    split
    · next c => rw [List.getElem?_eq_none (by omega)]
    · rw [List.getElem?_eq_none (by omega)]

set_option maxHeartbeats 4000000 in
set_option maxRecDepth 1000000 in
theorem delete_any (g m cap i : Nat) (cur : Array Value) (bs : List Nat) (w : World) (hg : w.heap[g]? = some (.cells cur 74 (0, 0))) (hcs : cur.size = cap) (hxs : cur.toList.take (m + 1) = pts bs) (hl : bs.length = m + 1) (hcap : m + 1 ≤ cap) (hmx : cap ≤ maxLen) (him : i ≤ m) :
    Calls Try.prog 57 #[.slice (some ⟨g, 0, none⟩) (m + 1) cap, .int .i64 (i : Nat), .int .i64 ((i : Int) + 1)] w fun e w' => e = .returned (.slice (some ⟨g, 0, none⟩) m cap) ∧ w'.ownsRow 0 74 1 (.slice (some ⟨g, 0, none⟩) m cap) m (pts (bs.eraseIdx i)) ∧ w.grownBy w' (some g) := by
  obtain ⟨xs, hxs0⟩ : ∃ xs, pts bs = xs := ⟨_, rfl⟩
  have hlx : xs.length = m + 1 := by rw [← hxs0, pts_len, hl]
  have h1c : ∀ u ∈ xs, u.oneCell' = true := by rw [← hxs0]; exact pts_one bs
  have hfin : pts (bs.eraseIdx i) = xs.eraseIdx i := by rw [← hxs0]; unfold pts; apply List.ext_getElem?; intro t; simp only [List.getElem?_map, List.getElem?_eraseIdx]; split <;> rfl
  rw [hxs0] at hxs
  rw [hfin]
  have hv : ∀ w, (zeroValue 74).run Try.prog w = .ok (.pointer none) w := fun w => by kernel_rfl
  obtain ⟨i0, hi0, hz1⟩ := info_size (show (Try.prog.info? 74).map (·.size) = some 1 by kernel_rfl)
  have t22 := Try.underlying105
  clear hxs0 hfin hl
  unfold maxLen at hmx
  have hcell : ∀ t, t < cap → (w.drew.cell? ⟨g, t, none⟩).isSome = true ∧ w.drew.frozen? ⟨g, t, none⟩ = false := fun t ht => by
    refine ⟨?_, row_free hg t⟩
    show (w.cell? _).isSome = true
    rw [cell_of_row w g t cur _ _ hg, Array.getElem?_eq_getElem (by omega)]; rfl
  obtain ⟨news, hnews⟩ : ∃ news, news = xs.drop (i + 1) := ⟨_, rfl⟩
  have hlen : news.length = m - i := by rw [hnews]; simp; omega
  have hget : ∀ t, t < m - i → news[t]? = xs[i + 1 + t]? := fun t ht => by rw [hnews, List.getElem?_drop]
  have hxget : ∀ t, t < m + 1 → w.drew.cell? ⟨g, t, none⟩ = xs[t]? := fun t ht => by
    show w.cell? _ = _
    rw [cell_of_row w g t cur _ _ hg, ← hxs, List.getElem?_take, if_pos ht, Array.getElem?_toList]
  obtain ⟨A, hA, hsrc⟩ : ∃ A : Addr, (if cap = i + 1 then some (⟨g, 0, none⟩ : Addr) else some ⟨g, i + 1, none⟩) = some A ∧ Hid (∀ t u, news[t]? = some u → w.drew.cell? (A.add t) = some u) := by
    by_cases h : cap = i + 1
    · refine ⟨⟨g, 0, none⟩, by simp [h], fun t u hu => ?_⟩
      have h0 : news.length = 0 := by rw [hlen]; omega
      rw [List.length_eq_zero_iff.1 h0] at hu
      simp at hu
    · refine ⟨⟨g, i + 1, none⟩, by simp [h], fun t u hu => ?_⟩
      have ht : t < m - i := by
        have := (List.getElem?_eq_some_iff.1 hu).1
        rwa [hlen] at this
      rw [Addr.add_lit, hxget _ (by omega), ← hget t ht]
      exact hu
  have s1 : Hid (news.length = (m - i) * 1) := by rw [Nat.mul_one]; exact hlen
  have s2 : Hid (∀ u ∈ news, u.oneCell' = true) := fun u hu => h1c u (by rw [hnews] at hu; exact List.mem_of_mem_drop hu)
  have s3 : Hid (∀ t, t < news.length → (w.drew.cell? ⟨g, 0 + i * 1 + t, none⟩).isSome = true ∧ w.drew.frozen? ⟨g, 0 + i * 1 + t, none⟩ = false) := by
    intro t ht
    rw [hlen] at ht
    exact hcell _ (by omega)
  obtain ⟨W1, hW1⟩ : ∃ W1, W1 = w.drew.setCells g (0 + i * 1) news := ⟨_, rfl⟩
  have hg1 : W1.heap[g]? = some (.cells (Lib.lay cur i news) 74 (0, 0)) := by
    rw [hW1, Nat.mul_one, Nat.zero_add]
    exact setCells_heap g _ news i w.drew cur hg
  have hgr1 : w.grownBy W1 (some g) := by
    rw [hW1]
    exact grown_trans (b := w.drew) ⟨rfl, rfl, rfl, Nat.le_refl _, fun _ _ _ => rfl⟩ (setCells_grown g news _ w.drew)
  have hcl : ∀ ty, (Builtin.clear_ #[105] ty #[.slice (some ⟨g, m, none⟩) 1 (cap - m)]).run Try.prog W1 = .ok (.tuple #[]) (W1.setCells g m (List.replicate 1 (.pointer none))) :=
    fun ty => Lib.run_clear_slice W1 _ _ ty _ t22 hv rfl rfl g m 1 (cap - m) (by omega) (fun t ht => by rw [cell_of_row W1 g _ _ _ _ hg1, Array.getElem?_eq_getElem (by rw [lay_len]; omega)]; rfl) (fun t ht => row_free hg1 _)
  have HF : Box ((W1.setCells g m (List.replicate 1 (.pointer none))).ownsRow 0 74 1 (.slice (some ⟨g, 0, none⟩) m cap) m (xs.eraseIdx i) ∧ w.grownBy (W1.setCells g m (List.replicate 1 (.pointer none))) (some g)) := boxed (by
    refine ⟨⟨by rw [Nat.mul_one, List.length_eraseIdx]; split <;> omega, .inr ⟨g, cap, _, rfl, Nat.zero_le _, setCells_heap g _ _ m W1 _ hg1, by omega, by unfold maxLen; omega, ?_, ?_⟩⟩, grown_trans hgr1 (setCells_grown g _ m W1)⟩
    · rw [lay_len, lay_len, hcs, Nat.mul_one]
    · rw [Nat.mul_one, hnews]; exact erased cur xs m i _ hxs hlx him)
  have hW : Hid (W1 = w.drew.setCells g (0 + i * 1) news) := hW1
  have hic : i ≤ cap := by omega
  have hjc : i + 1 ≤ cap := by omega
  have hj1 : i + 1 ≤ m + 1 := by omega
  clear hW1 hg1 hgr1 hg hget hnews hlen hxget hcell h1c hxs hlx hv
  go_enter Try.func57, Try.ntmps57
  go_wp2_with fail
  have hmi : i + (m - i) = m := by omega
  have hp0 : (0 : Int) ≤ (i : Int) + 1 := by omega
  go_region_law (refine step_append_room rfl (.tmp 22) (.tmp 25) 105 rfl 74 i0 1 t22 hi0 hz1 g 0 i cap (by simp [Act.eval, Act.put]) A (m - i) (cap - (i + 1)) news (by simp [Act.eval, Act.put]) s1.out hsrc.out s2.out (by omega) s3.out ?_; rw [← hW.out])
  have hm1 : m + 1 - m = 1 := by omega
  have hmc : m ≤ cap := by omega
  go_wp2
  go_ret
  exact ⟨rfl, HF.out.1, HF.out.2⟩
end Go.Proofs.Ytmnnmnggakbipaa
