/-
  One copy more: what a round of the law's first loop leaves.
-/
import Derived.Test.YtjfcpbnipkkjbaaMu
namespace Go.Proofs.Ytjfcpbnipkkjbaa
open Go.RowKit
set_option linter.unusedSimpArgs false
set_option linter.unusedVariables false

theorem cop_round {F : Nat → Sty} {base : Nat} {wr W w2 : World} {v v' : Value} {k : Nat} {H : Nat → Sty} (g : Sty) (HO : wr.ownsRow base 35 8 v k (stv H k)) (HC : Cop F base wr v.ownBlock k H) (hbase : base ≤ wr.heap.size) (HBW : Below wr.heap.size wr W)
    (hgrow : W.grownBy w2 v.ownBlock) (hwh : v'.ownBlock = v.ownBlock ∨ v'.ownBlock = some W.heap.size) (hown : w2.ownsRow base 35 8 v' (k + 1) (stv H k ++ (sv g).toList))
    (h1 : Like (F k) g) (h2 : g.rn ≤ g.rc ∧ g.ra ≠ none) (h3 : RgsAt (fun b => wr.heap.size ≤ b) W g.ra g.rn g.R) (h4 : ∀ b off, g.ra = some ⟨b, off, none⟩ → 0 < g.rn → ∀ j, W.frozen? ⟨b, j, none⟩ = false) :
    w2.ownsRow base 35 8 v' (k + 1) (stv (fun i => if i = k then g else H i) (k + 1)) ∧ Cop F base w2 v'.ownBlock (k + 1) (fun i => if i = k then g else H i) ∧ Below base wr w2 := by
  have hzW := HBW.size
  have hfr : ∀ b, b < wr.heap.size → some b ≠ v.ownBlock → w2.heap[b]? = wr.heap[b]? := fun b hb hne => by
    rw [hgrow.block b (by omega) hne, HBW.block b hb]
  refine ⟨?_, ?_, (HBW.mono hbase).grown hgrow (by omega) (fun q hq => (HO.lt q hq).1)⟩
  · have e : stv (fun i => if i = k then g else H i) (k + 1) = stv H k ++ (sv g).toList := by
      show stv (fun i => if i = k then g else H i) k ++ (sv ((fun i => if i = k then g else H i) k)).toList = _
      rw [stv_same (fun i => if i = k then g else H i) H k (fun i hi => if_neg (by omega))]
      simp
    rw [e]; exact hown
  · have hstep := HC.step hfr (row' := v'.ownBlock) (by
      rcases hwh with e | e
      · exact Or.inl e
      · exact Or.inr ⟨W.heap.size, e, hzW⟩)
    have hblk : ∀ b, wr.heap.size ≤ b → b < W.heap.size → w2.heap[b]? = W.heap[b]? ∧ some b ≠ v'.ownBlock := by
      intro b hb1 hb2
      have hne : some b ≠ v.ownBlock := by
        intro c
        have := (HO.lt b c.symm).2
        omega
      refine ⟨hgrow.block b hb2 hne, ?_⟩
      rcases hwh with e | e
      · rw [e]; exact hne
      · rw [e]
        intro c
        have : b = W.heap.size := Option.some.inj c
        omega
    refine hstep.more g h1 h2 ?_ ?_
    · refine h3.keep (fun b i u hs hc => ?_)
      have hbl : b < W.heap.size := World.block_lt_of_cell? W _ hc
      have hs' : wr.heap.size ≤ b := hs
      have hq := hblk b hs' hbl
      exact ⟨⟨by omega, hq.2⟩, by rw [World.cell?_of_block (w := W) hq.1]; exact hc⟩
    · intro b off e h0 j
      obtain ⟨-, b', off', e', hs, c0, -, -⟩ := h3 0 h0
      rw [e] at e'
      have e1 : b = b' := congrArg Addr.block (Option.some.inj e')
      subst e1
      rw [World.frozen?_of_block (w := W) (hblk b hs (World.block_lt_of_cell? W _ c0)).1]
      exact h4 b off e h0 j
end Go.Proofs.Ytjfcpbnipkkjbaa
