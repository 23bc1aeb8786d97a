/-
  What played answers; both caches' lists gone; a call that is none.
-/
import Derived.Test.YtmnnmnggakbipaaQy
namespace Go.Proofs.Ytmnnmnggakbipaa
open Go.RowKit
set_option linter.unusedSimpArgs false
set_option linter.unusedVariables false

theorem cells13 {W : World} {rb : Nat} {v0 v1 v2 v3 v4 v5 v6 v7 v8 v9 v10 v11 v12 : Value} {t : TypeId} (e : W.heap[rb]? = some (.cells #[v0, v1, v2, v3, v4, v5, v6, v7, v8, v9, v10, v11, v12] t (0, 0))) : W.cell? ⟨rb, 0, none⟩ = some v0 ∧ W.cell? ⟨rb, 1, none⟩ = some v1 ∧ W.cell? ⟨rb, 2, none⟩ = some v2 ∧ W.cell? ⟨rb, 3, none⟩ = some v3 ∧ W.cell? ⟨rb, 4, none⟩ = some v4 ∧ W.cell? ⟨rb, 5, none⟩ = some v5 ∧ W.cell? ⟨rb, 6, none⟩ = some v6 ∧ W.cell? ⟨rb, 7, none⟩ = some v7 ∧ W.cell? ⟨rb, 8, none⟩ = some v8 ∧ W.cell? ⟨rb, 9, none⟩ = some v9 ∧ W.cell? ⟨rb, 10, none⟩ = some v10 ∧ W.cell? ⟨rb, 11, none⟩ = some v11 ∧ W.cell? ⟨rb, 12, none⟩ = some v12 := by
  refine ⟨?_, ?_, ?_, ?_, ?_, ?_, ?_, ?_, ?_, ?_, ?_, ?_, ?_⟩ <;> simp [World.cell?, e]

/-- What played answers. -/
def PldP (w : World) (room : Int) (O : Nat → Opr) (N : Nat) (r : Ending) (w' : World) : Prop :=
  ∃ F cb mb fo mi L Bk M lo n lc es, r = .returned (.tuple #[.pointer (some ⟨cb, 0, none⟩), .agg #[.int .i64 room, .slice lo n lc, .int .i64 fo, .int .i64 mi]]) ∧ CaAt w' F cb mb room fo mi L Bk M ∧ RsAt (fun b => ¬ F b) w' lo es ∧ abR es = abL L ∧ n = es.length ∧ (∀ b, F b → w.heap.size ≤ b) ∧ Below w.heap.size w w' ∧ Pls room O (min N 60) (abL L) ∧ ((0 ≤ fo ∧ fo ≤ 60) ∧ 0 ≤ mi ∧ mi ≤ 60)
/-- The list is gone, on both sides. -/
theorem PlI.clear {w wr w4 : World} {room : Int} {O : Nat → Opr} {i : Nat} {F : Nat → Prop} {cb mb : Nat} {fo mi : Int} {L : List En} {Bk : Int → List Nat} {M : Int → Option Value} {lo : Option Addr} {n lc : Nat} {es : List Re} (h : PlI w wr room O i F cb mb fo mi L Bk M lo n lc es) (hc : Chg F wr w4) (hca : CaAt w4 F cb mb room fo mi [] (fun _ => []) (fun _ => none)) (hpl : Stp room (O i) (abL L) []) :
    PlI w (w4.setCell ⟨w.heap.size + 1, 1, none⟩ (.slice none 0 0)) room O (i + 1) F cb mb fo mi [] (fun _ => []) (fun _ => none) none 0 0 [] := by
  obtain ⟨m1, m2, m3, m4, m5⟩ := h.mid (F' := F) (fun b hb => .inl hb) hc
  have hch : Chg (fun b => b = w.heap.size + 1) w4 (w4.setCell ⟨w.heap.size + 1, 1, none⟩ (.slice none 0 0)) := Chg.set _ _ _ _ rfl
  have hnum := h.num
  refine ⟨hca.other hch (fun b _ hd c => by have := m2 b c; omega) (by simp), ⟨by simp, by simp⟩, rfl, rfl, m2, (set_other _ _ _ _ _ (by omega)).trans m3, arr_set _ m4, m5.trans (hch.below m5.size (fun b hb => by omega)), ⟨_, h.pls, hpl⟩, by simp; omega⟩
theorem PlI.idle {w wr : World} {room : Int} {O : Nat → Opr} {i : Nat} {F : Nat → Prop} {cb mb : Nat} {fo mi : Int} {L : List En} {Bk : Int → List Nat} {M : Int → Option Value} {lo : Option Addr} {n lc : Nat} {es : List Re} (h : PlI w wr room O i F cb mb fo mi L Bk M lo n lc es) (hpl : Stp room (O i) (abL L) (abL L)) : PlI w wr room O (i + 1) F cb mb fo mi L Bk M lo n lc es :=
  ⟨h.ca, h.rs, h.ab, h.len, h.fb, h.rb, h.sb, h.bel, ⟨_, h.pls, hpl⟩, by have := h.num; simp; omega⟩
end Go.Proofs.Ytmnnmnggakbipaa
