/-
  What the document's Set answers.
-/
import Derived.Test.YtkoaoejlbkdkgaaEh
namespace Go.Proofs.Ytkoaoejlbkdkgaa
open Go.RowKit

/-- What the document's Set answers. -/
theorem refset_any (s : Sm) (width : Int) (w : World) (h : SmOk s width) (h3 : 0 ≤ s.sh) : Calls Try.prog 27 #[s.val, .int .i64 width] w fun e w' => e = .returned (setF s width).val ∧ Below w.heap.size w w' := by
  by_cases c : width - s.w = 0 ∨ (0 < width - s.w ∧ 0 < s.f)
  · exact refset_zero s width w h c
  by_cases c1 : 0 < width - s.w
  · exact refset_up s width w h c1 (by omega)
  by_cases c2 : -(width - s.w) ≤ s.sh
  · exact refset_down s width w h (by omega) c2
  by_cases c5 : 0 < s.sh
  · exact refset_over1 s width w h (by omega) c2 h3 c5
  · exact refset_over0 s width w h (by omega) c2 h3 c5
end Go.Proofs.Ytkoaoejlbkdkgaa
