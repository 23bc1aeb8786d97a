/-
  What the document's Fast has so far, and what an append to its lines leaves. No walk.
-/
import Derived.Test.YtkmeeblkckfepaaGreatPkDo
import Derived.Test.YtkmeeblkckfepaaGreatPk22
namespace Go.Proofs.YtkmeeblkckfepaaGreat
open Go.RowKit
set_option linter.unusedSimpArgs false
set_option linter.unusedVariables false

/-- What holds while the lines are gone through: the settings, the result's block, the lines so far, the breaks, the table. -/
structure FaI (w : World) (s : Stg) (I : Nat → Itm) (n G : Nat) (eo : Option Addr) (tb : Nat) (R : Nat → Nat → Int) (T : Int) (em : Bool) (v : Value) (p : List Nat) (W : World) : Prop where
  bel : Below w.heap.size w W
  sb : W.heap[w.heap.size]? = some (.cells #[.int .i64 s.t, .int .i64 s.l, .int .i64 s.a, .int .i64 s.d, .int .i64 s.z, .int .i64 s.o, .int .i64 s.i] 24 (0, 0))
  rb : W.heap[w.heap.size + 1]? = some (.cells #[.slice none 0 0, .int .i64 0, .bool false] 31 (0, 0))
  ob : W.heap[G]? = some (.cells #[v, .int .i64 T, .bool em] 31 (0, 0))
  ow : W.ownsRow (G + 1) 3 1 v p.length (ncs (p.map (bkn I n)))
  en : NAt (fun x => w.heap.size + 2 ≤ x ∧ x < G) W eo (lgs I n n)
  ta : TbAt W tb (nbk I n) R
  tg : tb < G ∧ w.heap.size + 2 ≤ tb ∧ w.heap.size + 2 ≤ G
section
variable {w W W' : World} {s : Stg} {I : Nat → Itm} {n G : Nat} {eo : Option Addr} {tb : Nat} {R : Nat → Nat → Int} {T : Int} {em : Bool} {v : Value} {p : List Nat}
theorem FaI.next (h : FaI w s I n G eo tb R T em v p W) (hb : Below W.heap.size W W') : FaI w s I n G eo tb R T em v p W' where
  bel := h.bel.trans (hb.mono (by have := heap_lt h.sb; omega))
  sb := (hb.block _ (heap_lt h.sb)).trans h.sb
  rb := (hb.block _ (heap_lt h.rb)).trans h.rb
  ob := (hb.block _ (heap_lt h.ob)).trans h.ob
  ow := owns_below h.ow hb
  en := h.en.below hb
  ta := h.ta.below hb
  tg := h.tg
/-- Behind the append and the store. -/
theorem FaI.grow (h : FaI w s I n G eo tb R T em v p W) {v1 : Value} {z : World} {W0 : World} (h0 : Below W.heap.size W W0) (hg : W0.grownBy z v.ownBlock) (j y : Nat) (hy : bkn I n j = y) (ho : z.ownsRow (G + 1) 3 1 v1 (p.length + 1) (ncs (p.map (bkn I n)) ++ [.int .i64 (y : Int)])) :
    (z.cell? ⟨G, 0, none⟩ = some v ∧ z.frozen? ⟨G, 0, none⟩ = false) ∧ FaI w s I n G eo tb R T em v1 (p ++ [j]) (z.setCell ⟨G, 0, none⟩ v1) := by
  have hGW := heap_lt h.ob
  have hbl : ∀ q, q < G + 1 → z.heap[q]? = W.heap[q]? := fun q hq => by
    rw [hg.block q (by have := h0.size; omega) (fun e => by have := (h.ow.lt q e.symm).1; omega)]
    exact h0.block q (by omega)
  have e1 : z.heap[G]? = _ := (hbl G (by omega)).trans h.ob
  obtain ⟨g1, g2, g3⟩ := h.tg
  have hcell : ∀ (q i : Nat) (u : Value), q < G → W.cell? ⟨q, i, none⟩ = some u → (z.setCell ⟨G, 0, none⟩ v1).cell? ⟨q, i, none⟩ = some u := fun q i u hq hu => by
    rw [World.cell?_of_block (w := z) (a := ⟨q, i, none⟩) (Below.heap_setCell z ⟨G, 0, none⟩ v1 q (by simp only; omega)), World.cell?_of_block (w := W) (a := ⟨q, i, none⟩) (hbl q (by omega))]
    exact hu
  have hsz : W.heap.size ≤ z.heap.size := Nat.le_trans h0.size hg.size
  have b1 : Below w.heap.size w z := ⟨hg.os.trans (h0.os.trans h.bel.os), hg.tape.trans (h0.tape.trans h.bel.tape), hg.output.trans (h0.output.trans h.bel.output), by have := h.bel.size; omega, fun q hq => (hbl q (by omega)).trans (h.bel.block q hq)⟩
  refine ⟨⟨row_cell e1 0 _ rfl, row_free e1 0⟩, ⟨b1.setCell (by simp only; omega) _, ?_, ?_, arr_set v1 e1, ?_, ?_, ?_, h.tg⟩⟩
  · rw [Below.heap_setCell z ⟨G, 0, none⟩ v1 _ (by simp only; omega)]; exact (hbl _ (by omega)).trans h.sb
  · rw [Below.heap_setCell z ⟨G, 0, none⟩ v1 _ (by simp only; omega)]; exact (hbl _ (by omega)).trans h.rb
  · have := ownsRow_setCell_below ho (a := ⟨G, 0, none⟩) (by simp) v1
    rw [List.length_append, List.map_append, ncs_app]
    simpa [ncs, hy] using this
  · intro i hi
    obtain ⟨b, e, hb, hc⟩ := h.en i hi
    exact ⟨b, e, hb, hcell b i _ hb.2 hc⟩
  · intro e c h1 h2
    exact hcell tb _ _ g1 (h.ta e c h1 h2)
/-- The result is laid. -/
theorem FaI.out (h : FaI w s I n G eo tb R T em v p W) : (W.setCells (w.heap.size + 1) 0 [v, .int .i64 T, .bool em]).heap[w.heap.size + 1]? = some (.cells #[v, .int .i64 T, .bool em] 31 (0, 0)) ∧ Below w.heap.size w (W.setCells (w.heap.size + 1) 0 [v, .int .i64 T, .bool em]) ∧ (W.setCells (w.heap.size + 1) 0 [v, .int .i64 T, .bool em]).ownsRow (G + 1) 3 1 v p.length (ncs (p.map (bkn I n))) := by
  refine ⟨sets_heap _ _ _ 0 _ _ h.rb, h.bel.trans (sets_below _ _ (by omega) _ _ _), ?_⟩
  have g := h.tg
  have hG : w.heap.size + 1 < G + 1 := by omega
  simp only [World.setCells]
  exact ownsRow_setCell_below (ownsRow_setCell_below (ownsRow_setCell_below h.ow (a := ⟨w.heap.size + 1, 0, none⟩) hG v) (a := ⟨w.heap.size + 1, 0 + 1, none⟩) hG (.int .i64 T)) (a := ⟨w.heap.size + 1, 0 + 1 + 1, none⟩) hG (.bool em)
end
/-- How far the best way has been gone through. -/
def FaP (P : Pr) (c : Int) (l : List Nat) (p : List Nat) (st : Nat) (a t cl : Int) : Prop := Best P 0 (-1) c l ∧ (∃ q, l = p ++ q) ∧ pf P 0 (-1) 0 p = some (st, a, t) ∧ ahd st cl = a ∧ 0 ≤ cl ∧ cl ≤ 3
theorem fap_zero {P : Pr} {c : Int} {l : List Nat} (h : Best P 0 (-1) c l) : FaP P c l [] 0 (-1) 0 0 := ⟨h, ⟨l, rfl⟩, rfl, rfl, by omega, by omega⟩
theorem fap_end {P : Pr} (hN : Nn P) {c : Int} {l p : List Nat} {st : Nat} {a t cl : Int} (h : FaP P c l p st a t cl) (hs : P.m ≤ st) : l = p := by
  obtain ⟨h1, ⟨q, rfl⟩, h3, -⟩ := h
  obtain ⟨c', h4, -⟩ := (pf_cost hN h3).2.2 _ h1.1
  cases q with
  | nil => simp
  | cons x q =>
    obtain ⟨hs', -⟩ := cw_cons P _ _ _ _ _ h4
    have := (mayL_iff P _ _).1 hs'
    omega
/-- The next break. -/
theorem fap_next {P : Pr} (hN : Nn P) {c : Int} {l p : List Nat} {st : Nat} {a t cl : Int} (h : FaP P c l p st a t cl) (hs : st < P.m) : ∃ x, st ≤ x ∧ x < P.m ∧ mayL P st x = true ∧
    (∀ j r, st ≤ j → j ≤ x → Lst P (j + 1) (P.kl st j) r → (P.dz st j = true → mayL P st j = true) ∧ ((P.dz st j = true ∧ 0 ≤ r ∧ tt (tt t (P.ct st j a)) r = c) ↔ j = x)) ∧
    (0 ≤ P.kl st x → P.kl st x ≤ 3 → FaP P c l (p ++ [x]) (x + 1) (P.kl st x) (tt t (P.ct st x a)) (P.kl st x)) := by
  obtain ⟨h1, ⟨q, rfl⟩, h3, h4, h5, h6⟩ := h
  obtain ⟨c', k1, -⟩ := (pf_cost hN h3).2.2 _ h1.1
  cases q with
  | nil => simp only [cw] at k1; rw [if_neg (by omega)] at k1; cases k1
  | cons x q =>
    obtain ⟨hs', -⟩ := cw_cons P _ _ _ _ _ k1
    obtain ⟨m1, m2, -, -⟩ := (mayL_iff P _ _).1 hs'
    refine ⟨x, m1, m2, hs', fun j r hj hjx hr => ?_, fun g1 g2 => ⟨h1, ⟨q, by simp⟩, pf_snoc P p 0 (-1) 0 st a t x h3 hs', ?_, g1, g2⟩⟩
    · have := fast_next hN h1 h3 j r hj hjx hr
      exact this.2
    · unfold ahd; rw [if_neg (by omega)]
end Go.Proofs.YtkmeeblkckfepaaGreat
