/-
  The document's side: are numbers alike; a struct of two lists that grow.
-/
import Derived.Test.YtflhefgmgdgffaaDoorHyp
namespace Go.Proofs.YtflhefgmgdgffaaDoor
open Go.RowKit Go.Maps
set_option linter.unusedSimpArgs false
set_option linter.unusedVariables false

theorem list_ext {l m : List Nat} (h : l.length = m.length) (e : ∀ i, i < l.length → l.getD i 0 = m.getD i 0) : l = m := by
  apply List.ext_getElem h
  intro i h1 h2
  have := e i h1
  simpa [List.getD_eq_getElem?_getD, h1, h2] using this
theorem Dg.drewN {w : World} {ao : Option Addr} {cap : Nat} {l : List Nat} (h : Dg w ao cap l) (n : Nat) : Dg (w.drewN n) ao cap l := h.below (bel_drewN _ _ _)
theorem Dg.at {w : World} {ao : Option Addr} {cap : Nat} {l : List Nat} (h : Dg w ao cap l) (hl : 0 < l.length) : ∃ b off, ao = some ⟨b, off, none⟩ ∧ b < w.heap.size ∧ ∀ i, i < l.length → w.cell? ⟨b, off + i, none⟩ = some (.int .i64 ((l.getD i 0 : Nat) : Int)) := by
  rcases h.2 with h | h
  · rw [h] at hl; simp at hl
  · exact h
/-- A struct of two lists of numbers that grow, in a block of its own; all behind w1. -/
structure Two (T : TypeId) (w1 : World) (pb : Nat) (vL vV : Value) (L V : List Nat) (wr : World) : Prop where
  bel : Below w1.heap.size w1 wr
  lo : w1.heap.size ≤ pb
  box : wr.heap[pb]? = some (.cells #[vL, vV] T (0, 0))
  oL : wr.ownsRow w1.heap.size 3 1 vL L.length (vals L)
  oV : wr.ownsRow w1.heap.size 3 1 vV V.length (vals V)
  ap : vL.ownBlock = none ∨ vL.ownBlock ≠ vV.ownBlock
section
variable {T : TypeId} {w1 wr : World} {pb : Nat} {vL vV : Value} {L V : List Nat}
theorem Two.cells (h : Two T w1 pb vL vV L V wr) : (wr.cell? ⟨pb, 0, none⟩ = some vL ∧ wr.cell? ⟨pb, 1, none⟩ = some vV) ∧ wr.frozen? ⟨pb, 0, none⟩ = false ∧ wr.frozen? ⟨pb, 1, none⟩ = false :=
  ⟨⟨by rw [cell_of_row _ _ _ _ _ _ h.box]; rfl, by rw [cell_of_row _ _ _ _ _ _ h.box]; rfl⟩, row_free h.box 0, row_free h.box 1⟩
theorem Two.size (h : Two T w1 pb vL vV L V wr) : w1.heap.size ≤ wr.heap.size := h.bel.size
theorem Two.below (h : Two T w1 pb vL vV L V wr) {w' : World} (hb : Below wr.heap.size wr w') : Two T w1 pb vL vV L V w' :=
  ⟨h.bel.trans (hb.mono h.size), h.lo, (hb.block _ (heap_lt h.box)).trans h.box, owns_below h.oL hb, owns_below h.oV hb, h.ap⟩
theorem Two.appL (h : Two T w1 pb vL vV L V wr) (hT : T ≠ 3) {o : Obj} {v' : Value} {w2 : World} {x : Nat} (hown : w2.ownsRow w1.heap.size 3 1 v' (L.length + 1) (vals L ++ [.int .i64 (x : Int)])) (hg : (wr.alloc o).grownBy w2 vL.ownBlock)
    (hw : v'.ownBlock = vL.ownBlock ∨ v'.ownBlock = some (wr.heap.size + 1)) : Two T w1 pb v' vV (L ++ [x]) V (w2.setCell ⟨pb, 0, none⟩ v') := by
  have hpl := heap_lt h.box
  have hb0 : (wr.alloc o).heap[pb]? = some (.cells #[vL, vV] T (0, 0)) := by rw [Below.heap_alloc _ _ _ hpl]; exact h.box
  have hb2 : w2.heap[pb]? = some (.cells #[vL, vV] T (0, 0)) := by rw [hg.block pb (by simp; omega) (fun c => own_ne h.oL h.box hT c.symm)]; exact hb0
  have hs := grown_set w2 pb 0 v'
  have hbel : Below w1.heap.size w1 w2 := (h.bel.alloc h.size o).grown hg (by simp; have := h.size; omega) (fun k hk => (h.oL.lt k hk).1)
  rw [vals_snoc] at hown
  have hl : (L ++ [x]).length = L.length + 1 := by simp
  have hV2 := (h.oV.alloc o).kept hg (apart2 h.ap)
  refine ⟨hbel.grown hs hbel.size (fun k hk => by injection hk with hk; rw [← hk]; exact h.lo), h.lo, ?_, ?_, hV2.kept hs (.inr (own_ne hV2 hb2 hT)), ?_⟩
  · rw [arr_set v' hb2]; rfl
  · rw [hl]; exact hown.kept hs (.inr (own_ne hown hb2 hT))
  · rcases hw with hw | hw
    · rw [hw]; exact h.ap
    · right
      rw [hw]
      intro c
      have := (h.oV.lt _ c.symm).2
      have h2 : (wr.alloc o).heap.size = wr.heap.size + 1 := by simp
      omega
theorem Two.appV (h : Two T w1 pb vL vV L V wr) (hT : T ≠ 3) {o : Obj} {v' : Value} {w2 : World} {x : Nat} (hown : w2.ownsRow w1.heap.size 3 1 v' (V.length + 1) (vals V ++ [.int .i64 (x : Int)])) (hg : (wr.alloc o).grownBy w2 vV.ownBlock)
    (hw : v'.ownBlock = vV.ownBlock ∨ v'.ownBlock = some (wr.heap.size + 1)) : Two T w1 pb vL v' L (V ++ [x]) (w2.setCell ⟨pb, 1, none⟩ v') := by
  have hpl := heap_lt h.box
  have hb0 : (wr.alloc o).heap[pb]? = some (.cells #[vL, vV] T (0, 0)) := by rw [Below.heap_alloc _ _ _ hpl]; exact h.box
  have hb2 : w2.heap[pb]? = some (.cells #[vL, vV] T (0, 0)) := by rw [hg.block pb (by simp; omega) (fun c => own_ne h.oV h.box hT c.symm)]; exact hb0
  have hs := grown_set w2 pb 1 v'
  have hbel : Below w1.heap.size w1 w2 := (h.bel.alloc h.size o).grown hg (by simp; have := h.size; omega) (fun k hk => (h.oV.lt k hk).1)
  rw [vals_snoc] at hown
  have hl : (V ++ [x]).length = V.length + 1 := by simp
  have hL2 := (h.oL.alloc o).kept hg h.ap
  refine ⟨hbel.grown hs hbel.size (fun k hk => by injection hk with hk; rw [← hk]; exact h.lo), h.lo, ?_, hL2.kept hs (.inr (own_ne hL2 hb2 hT)), ?_, ?_⟩
  · rw [arr_set v' hb2]; rfl
  · rw [hl]; exact hown.kept hs (.inr (own_ne hown hb2 hT))
  · rcases hw with hw | hw
    · rw [hw]; exact h.ap
    · cases c : vL.ownBlock with
      | none => exact .inl rfl
      | some g =>
        right
        rw [hw]
        intro e
        injection e with e
        have := (h.oL.lt g c).2
        have h2 : (wr.alloc o).heap.size = wr.heap.size + 1 := by simp
        omega
theorem Two.setV {g n cap : Nat} (h : Two T w1 pb vL (.slice (some ⟨g, 0, none⟩) n cap) L V wr) (hn : n = V.length) (hT : T ≠ 3) (i x : Nat) : Two T w1 pb vL (.slice (some ⟨g, 0, none⟩) n cap) L (V.set i x) (wr.setCell ⟨g, i, none⟩ (.int .i64 (x : Int))) := by
  subst hn
  obtain ⟨h1, h2⟩ := h.oV.stored i (.int .i64 (x : Int))
  rw [vals_set] at h1
  refine ⟨h.bel.grown h2 h.size (fun k hk => (h.oV.lt k hk).1), h.lo, ?_, h.oL.kept h2 h.ap, by rw [List.length_set]; exact h1, h.ap⟩
  rw [h2.block pb (heap_lt h.box) (fun c => own_ne h.oV h.box hT c.symm)]
  exact h.box
end
section
variable {P : Program} {fn : Func} {p a : Nat} {ty : TypeId}
theorem results_row_tmp (h : fn.results = #[.cell p ty, .tmp a]) (tmps : Array Value) (w : World) (g : Nat) (t : TypeId) (cs : Array Value) (fr : Nat × Nat) (d : TypeDesc)
    (hp : tmps.getD p undef = .pointer (some ⟨g, 0, none⟩)) (hg : w.heap[g]? = some (.cells cs t fr))
    (hu : P.underlying ty = some d) (hd : (match d with | .struct _ | .array _ _ => true | _ => false) = true) (hi : (P.info? ty).map (·.size) = some cs.size) :
    (results fn tmps).run P w = .ok (.tuple #[.agg cs, tmps.getD a undef]) w := by
  simp only [results, h]
  simp [Sem.run_bind, Result.andThen]
  rw [show tmps[p]?.getD undef = .pointer (some ⟨g, 0, none⟩) by simpa using hp]
  simp [asAddr, run_loadVar_row w g t ty cs fr d hg hu hd hi]
end
def put2 (w : World) (rb : Nat) (v0 v1 : Value) : World := (w.setCell ⟨rb, 0, none⟩ v0).setCell ⟨rb, 1, none⟩ v1
theorem put2_heap {w : World} {rb : Nat} {x0 x1 : Value} {t : TypeId} (h : w.heap[rb]? = some (.cells #[x0, x1] t (0, 0))) (v0 v1 : Value) : (put2 w rb v0 v1).heap[rb]? = some (.cells #[v0, v1] t (0, 0)) := by
  simp [put2, World.setCell, Array.getElem?_modify, h]
theorem put2_grown (w : World) (rb : Nat) (v0 v1 : Value) : w.grownBy (put2 w rb v0 v1) (some rb) := grown_trans (grown_set _ _ _ _) (grown_set _ _ _ _)
/-- The address, if there is one, is no block below B. -/
def NewA (B : Nat) (ao : Option Addr) : Prop := ∀ b o, ao = some ⟨b, o, none⟩ → B ≤ b
theorem newA_own {w : World} {B e size n cap : Nat} {ao : Option Addr} {xs : List Value} (h : w.ownsRow B e size (.slice ao n cap) n xs) : NewA B ao := by
  intro b o e
  rcases ownsRow_forms h with ⟨e1, _⟩ | ⟨g, c, e1⟩
  · injection e1 with e1; rw [e] at e1; cases e1
  · injection e1 with e1
    subst e1
    injection e with e
    injection e with e
    subst e
    exact (h.lt g rfl).1
/-- A result's two lists, told to the caller. -/
theorem two_told {T : TypeId} {w1 wr : World} {pb rb : Nat} {vL vV : Value} {L V : List Nat} (h : Two T w1 pb vL vV L V wr) (hT : T ≠ 3) {x0 x1 : Value} (hr : wr.heap[rb]? = some (.cells #[x0, x1] T (0, 0))) :
    ∃ aoL cL aoV cV, vL = .slice aoL L.length cL ∧ vV = .slice aoV V.length cV ∧ Dg (put2 wr rb vL vV) aoL cL L ∧ Dg (put2 wr rb vL vV) aoV cV V ∧ NewA w1.heap.size aoL ∧ NewA w1.heap.size aoV := by
  have hs := put2_grown wr rb vL vV
  have hL := h.oL.kept hs (.inr (own_ne h.oL hr hT))
  have hV := h.oV.kept hs (.inr (own_ne h.oV hr hT))
  obtain ⟨-, aoL, cL, e1, d1⟩ := dg_of_owns hL
  obtain ⟨-, aoV, cV, e2, d2⟩ := dg_of_owns hV
  have hL' := h.oL
  have hV' := h.oV
  rw [e1] at hL'
  rw [e2] at hV'
  exact ⟨aoL, cL, aoV, cV, e1, e2, d1, d2, newA_own hL', newA_own hV'⟩
end Go.Proofs.YtflhefgmgdgffaaDoor
