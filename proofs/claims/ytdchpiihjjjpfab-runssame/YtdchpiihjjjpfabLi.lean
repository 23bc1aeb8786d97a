/-
  What the program's put does: runs in the place of others.
-/
import Derived.Test.YtdchpiihjjjpfabLg
namespace Go.Proofs.Ytdchpiihjjjpfab
open Go.RowKit Go.Shelf
set_option linter.unusedSimpArgs false
set_option linter.unusedVariables false
attribute [local go_sem] Oper.semAt_some

/-- The styles of the first k runs as they are handed in. -/
def exr (L Y : Nat → Int) : Nat → List Int
  | 0 => []
  | k + 1 => exr L Y k ++ List.replicate (L k).toNat (Y k)
theorem exr_len (L Y : Nat → Int) (n k : Nat) (hk : k ≤ n) (h : ∀ i, i < n → 0 ≤ L i ∧ L i ≤ 65536) : (exr L Y k).length ≤ k * 65536 := by
  induction k with
  | zero => simp [exr]
  | succ k ih =>
    have := ih (by omega)
    have := h k (by omega)
    simp only [exr, List.length_append, List.length_replicate]
    omega
theorem exr_ok (L Y : Nat → Int) (n k : Nat) (hk : k ≤ n) (h : ∀ i, i < n → 0 ≤ Y i ∧ Y i < 32) : Sok (exr L Y k) := by
  induction k with
  | zero => intro y hy; simp [exr] at hy
  | succ k ih =>
    intro y hy
    simp only [exr, List.mem_append, List.mem_replicate] at hy
    rcases hy with hy | ⟨_, rfl⟩
    · exact ih (by omega) y hy
    · exact h k (by omega)
/-- The parts so far, in their box; nothing old turned; what is deferred. -/
def Pw (w : World) (Dl : List Nat) (q : List Int) (W : World) : Prop := (∃ v, W.heap[w.heap.size]? = some (.cells #[v] 55 (0, 0)) ∧ W.ownsRow w.heap.size 72 2 v (enc q).length (pcs 0 (enc q))) ∧ Below w.heap.size w W ∧ ∀ D ∈ Dl, W.heap[D]? = some (.deferred (some []))
theorem Pw.own {β : Type} (w : World) (Dl : List Nat) (q : β → List Int) (B : Nat) (hB : w.heap.size ≤ B) (hD : ∀ D ∈ Dl, D < B) : OwnFrom B (fun x W => Pw w Dl (q x) W) := by
  rintro pre W W' row ⟨⟨v, h1, h2⟩, h3, h4⟩ hg hr
  refine ⟨⟨v, blk_turn h1 hg (fun r e => (hr r e).2), owns_turn h2 hg (fun r e => (hr r e).2)⟩, h3.grown hg h3.size (fun r e => by have := (hr r e).1; omega), fun D hd => ?_⟩
  rw [hg.block D (Array.getElem?_eq_some_iff.1 (h4 D hd)).1 (fun e => by have := (hr D e.symm).1; have := hD D hd; omega)]
  exact h4 D hd
theorem Pw.below {w : World} {Dl : List Nat} {q : List Int} {W W' : World} (h : Pw w Dl q W) (hb : Below W.heap.size W W') : Pw w Dl q W' := by
  obtain ⟨⟨v, h1, h2⟩, h3, h4⟩ := h
  exact ⟨⟨v, by rw [hb.block _ (Array.getElem?_eq_some_iff.1 h1).1]; exact h1, owns_below h2 hb⟩, below_step h3 (Nat.le_refl _) hb, fun D hd => by rw [hb.block _ (Array.getElem?_eq_some_iff.1 (h4 D hd)).1]; exact h4 D hd⟩
theorem sok_app {a b : List Int} (h1 : Sok a) (h2 : Sok b) : Sok (a ++ b) := fun y hy => (List.mem_append.1 hy).elim (h1 y) (h2 y)
theorem sok_i64 {q : List Int} (h : Sok q) : ∀ y ∈ q, I64 y := fun y hy => by have := h y hy; exact ⟨by omega, by omega⟩
/-- One run more. -/
theorem Pw.add {w : World} {Dl : List Nat} {q : List Int} {W : World} (h : Pw w Dl q W) (hq : Sok q) (l : Nat) (y : Int) (hl : q.length ≤ 8589869056) (hl0 : l ≤ 65536) (hy : I64 y) :
    ∃ v, W.heap[w.heap.size]? = some (.cells #[v] 55 (0, 0)) ∧ ∀ W1, Below W.heap.size W W1 → Calls Try.prog 24 #[v, .agg #[.int .i64 (l : Nat), .int .i64 y]] W1 fun e w6 => ∃ ao n cap, e = .returned (.slice ao n cap) ∧ w6.heap[w.heap.size]? = some (.cells #[v] 55 (0, 0)) ∧
      Pw w Dl (q ++ List.replicate l y) (w6.setCell ⟨w.heap.size, 0, none⟩ (.slice ao n cap)) ∧ KeepsOthers W (w6.setCell ⟨w.heap.size, 0, none⟩ (.slice ao n cap)) ∧
      ∀ n₀ Bf Bp Bt po pc s a b, Vw n₀ Bf Bp Bt po pc s a b W → w.heap.size ≠ Bf → w.heap.size ≠ Bp → w.heap.size ≠ Bt → n₀ ≤ w.heap.size → Vw n₀ Bf Bp Bt po pc s a b (w6.setCell ⟨w.heap.size, 0, none⟩ (.slice ao n cap)) := by
  obtain ⟨⟨v, h1, h2⟩, h3, h4⟩ := h
  refine ⟨v, h1, fun W1 hW1 => ?_⟩
  have k1 : W1.heap[w.heap.size]? = some (.cells #[v] 55 (0, 0)) := by rw [hW1.block _ (Array.getElem?_eq_some_iff.1 h1).1]; exact h1
  have k2 := owns_below h2 hW1
  have k3 : Below w.heap.size w W1 := below_step h3 (Nat.le_refl _) hW1
  have kk : KeepsOthers W W1 := keeps_grown (below_grown hW1 none) (fun r e => by cases e)
  refine (add_any w.heap.size v q l y W1 k2 (sok_i64 hq) hl hl0 hy k3.size).mono ?_
  rintro e w6 ⟨v', rfl, hown6, hg⟩
  obtain ⟨ao, cap, rfl⟩ : ∃ ao cap, v' = .slice ao (enc (q ++ List.replicate l y)).length cap := by
    rcases ownsRow_forms hown6 with ⟨g1, g2⟩ | ⟨g, cap, g1⟩
    · exact ⟨none, 0, by rw [g2]; exact g1⟩
    · exact ⟨_, _, g1⟩
  obtain ⟨r1, r2, r3, r4, r6⟩ := row_step0 k1 k2 hg hown6 (by decide)
  refine ⟨ao, _, cap, rfl, r1, ⟨⟨_, r2, r3⟩, r6 _ _ k3 (Nat.le_refl _) (Nat.le_refl _), fun D hd => ?_⟩, kk.trans r4, ?_⟩
  · exact (kk.trans r4).same D _ (h4 D hd) rfl
  · intro n₀ Bf Bp Bt po pc s a b hV x1 x2 x3 x4
    exact row_stepV (bx := w.heap.size) _ k2 hg (by decide) (by decide) (hV.below hW1) x1 x2 x3 x4 x4
end Go.Proofs.Ytdchpiihjjjpfab
