/-
  What the document's Fast answers, by either rule.
-/
import Derived.Test.YtkmeeblkckfepaaGreatPkDr
import Derived.Test.YtkmeeblkckfepaaGreatPk23
namespace Go.Proofs.YtkmeeblkckfepaaGreat
open Go.RowKit
set_option linter.unusedSimpArgs false
set_option linter.unusedVariables false

theorem fast_any {S : Nat → Prop} {w : World} {ao : Option Addr} {n c : Nat} {I : Nat → Itm} {width : Int} {s : Stg} (h : ItsAt S w ao n I) (hn : n ≤ 262144) (hok : ∀ i, i < n → okI I i = true) (hw : 1 ≤ width ∧ width ≤ 1073741824) (hs : okS s = true) (hm : 0 < nbk I n) (em : Bool) (c0 : Int) (l0 : List Nat) (hB : Best (PX I n width s em) 0 (-1) c0 l0) (hno : em = true → Noway (PX I n width s false) 0 (-1)) :
    Calls Tryz.prog 13 #[.slice ao n c, .int .i64 width, s.val] w fun e w' => ∃ bo bc, e = .returned (.agg #[.slice bo l0.length bc, .int .i64 c0, .bool em]) ∧ NAt (fun _ => True) w' bo (l0.map (bkn I n)) ∧ Below w.heap.size w w' := by
  have hc := cw_nn (px_nn I n width s em hok hs) _ _ _ _ hB.1
  cases em
  · exact fast0_any h hn hok hw hs hm c0 l0 hB hc
  · exact fast1_any h hn hok hw hs hm c0 l0 hB (hno rfl) hc
end Go.Proofs.YtkmeeblkckfepaaGreat
