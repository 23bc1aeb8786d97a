/- The breaks of a breaking rise. No program in it. -/
import Derived.Test.YtcjcdpfjnomehaaGreatPl20
import Derived.Test.YtcjcdpfjnomehaaGreatPl35
namespace Go.Proofs.YtcjcdpfjnomehaaGreat
set_option maxRecDepth 100000
set_option maxHeartbeats 40000000
set_option linter.unusedSimpArgs false
set_option linter.unusedVariables false
theorem brk_wb {I:Nat → Itm} {n:Nat} {width:Int} {s:Stg} {c:Int} {l:List Nat} {em:Bool} (h:Brk I n width s c l em) (hne:l ≠ []):WB n (l.map (bkn I n)) := by
 have hw := brk_wy h
 have hl:∀ i,i < l.length → l.getD i 0 < nbk I n := by
  intro i hi
  have:l.getD i 0 ∈ l := by simp [List.getD_eq_getElem?_getD,hi]
  exact (hw.1 _ this).2
 have hg:∀ i,i < l.length → (l.map (bkn I n)).getD i 0 = bkn I n (l.getD i 0) := by
  intro i hi
  simp [List.getD_eq_getElem?_getD,hi]
 refine ⟨by rw [List.length_map];exact List.length_pos_iff.2 hne,fun i hi => ?_,fun i hi => ?_⟩
 ·rw [List.length_map] at hi
  rw [hg i hi]
  exact (bkn_at I n _ (hl i hi)).2.1
 ·rw [List.length_map] at hi
  rw [hg i (by omega),hg (i + 1) hi]
  refine bkn_less I n _ _ ?_ (hl _ hi)
  have := (List.pairwise_iff_getElem.1 hw.2.1) i (i + 1) (by omega) hi (by omega)
  simpa [List.getD_eq_getElem?_getD,hi,show i < l.length by omega] using this
end Go.Proofs.YtcjcdpfjnomehaaGreat
