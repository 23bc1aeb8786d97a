/-
  What the document's Set answers of a line that doesn't fit.
-/
import Derived.Deep.Cut
import Derived.Test.YtcjcdpfjnomehaaGreatPw10
namespace Go.Proofs.YtcjcdpfjnomehaaGreat
open Go.RowKit
set_option linter.unusedSimpArgs false
set_option linter.unusedVariables false
end Go.Proofs.YtcjcdpfjnomehaaGreat

/-
  What the document's Set answers of a line that doesn't fit.
-/
namespace Go.Proofs.YtcjcdpfjnomehaaGreat
open Go.RowKit
set_option linter.unusedSimpArgs false
set_option linter.unusedVariables false
end Go.Proofs.YtcjcdpfjnomehaaGreat

/-
  What the document's Set answers.
-/
namespace Go.Proofs.YtcjcdpfjnomehaaGreat
open Go.RowKit
end Go.Proofs.YtcjcdpfjnomehaaGreat
