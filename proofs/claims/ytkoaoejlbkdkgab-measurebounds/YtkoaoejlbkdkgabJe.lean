/-
  What the document's Legal answers.
-/
import Derived.Test.YtkoaoejlbkdkgabJd
namespace Go.Proofs.Ytkoaoejlbkdkgab
open Go.RowKit
set_option linter.unusedSimpArgs false
set_option linter.unusedVariables false

end Go.Proofs.Ytkoaoejlbkdkgab
