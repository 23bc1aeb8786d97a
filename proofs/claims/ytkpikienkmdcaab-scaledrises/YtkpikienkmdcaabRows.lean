/-
  No cell of these rows narrows 'for every input' (looked for: loops, veiled, ifaces, maps, wideKeys, modest, calm, conditions, laid).
  DERIVED. THE GIVEN ROWS OF THIS SEAT. 4 by the template 'for every input the law returns true; each argument reads behind the call as it read before'; 0 by the template 'total and deterministic' (their statements: YtkpikienkmdcaabTotals.lean).
  GIVEN WITH THE SEED: the statements are not yours to turn. If you find one false, say at which input.
  Laid BY PROGRAM, IN A SANDBOX (cutbox-rows.mjs): the forced cells as the released guide's own fill.sh prints them over the translation b9cdf3d1e6e9134e… (all of the seat's roots in one cut). By AI agents, Wed Nov 11 2026. No macro, syntax, notation, axiom, sorry.
-/
import Derived.Test.YtkpikienkmdcaabChecked
import GoSem.Claim
import GoSem.ClaimJoined
import GoSem.ClaimMapViews
import Derived.JoinedTies
import Derived.KernelRfl
namespace Go.Proofs.Ytkpikienkmdcaab
/- THE CELL 'sum', in the pinned program and in every row, IS THE sha256 OF THE DUMP (.gsa) THAT YtkpikienkmdcaabProg.lean LOADS. Nothing in Lean hashes anything: it is a label: what it is worth is what the hold of that sum in a sandbox is worth. -/
noncomputable def Try.pinned : Pinned := { name := "ytkpikienkmdcaab", sum := "b9cdf3d1e6e9134ee205aa676fb3b0384c8ff4a72740f05b2bb1cd35c3393502", checked := Try.checked }
namespace Rows
def none {H : Type} : Left H := { results := [], args := [] }

/-- 'regletlaw01.ScaledRises': WHATEVER THE INPUT: true; the input reads as it did. -/
def scaledRisesSpec : ChangeSpec := { name := "scaledRises", fn := fun _ => fun
  | [d1, d2, d3] => { results := [.lit (.bool true)], args := [d1, d2, d3] }
  | _ => none }
def scaledRisesRow : OpenClaim := { program := "ytkpikienkmdcaab", sum := "b9cdf3d1e6e9134ee205aa676fb3b0384c8ff4a72740f05b2bb1cd35c3393502", func := "reglet/regletlaw01.ScaledRises", spec := "scaledRises", inPlace := ["math/bits.Add64"], unfollowed := true, recurses := true, apart := false }
def ScaledRisesSaid : Prop := scaledRisesRow.holds Try.pinned (OpenSpec.ofChange scaledRisesSpec)

/-- ITS FALSE NEIGHBOUR: 'it returns false'. Refute it at one input. -/
def scaledRisesWrong : ChangeSpec := { name := "scaledRises", fn := fun _ => fun
  | [d1, d2, d3] => { results := [.lit (.bool false)], args := [d1, d2, d3] }
  | _ => none }
def ScaledRisesWrongFalsely : Prop := scaledRisesRow.holds Try.pinned (OpenSpec.ofChange scaledRisesWrong)

/-- 'regletlaw01.ScaledDemerits': WHATEVER THE INPUT: true; the input reads as it did. -/
def scaledDemeritsSpec : ChangeSpec := { name := "scaledDemerits", fn := fun _ => fun
  | [d1, d2, d3] => { results := [.lit (.bool true)], args := [d1, d2, d3] }
  | _ => none }
def scaledDemeritsRow : OpenClaim := { program := "ytkpikienkmdcaab", sum := "b9cdf3d1e6e9134ee205aa676fb3b0384c8ff4a72740f05b2bb1cd35c3393502", func := "reglet/regletlaw01.ScaledDemerits", spec := "scaledDemerits", inPlace := ["math/bits.Add64"], unfollowed := true, recurses := true, named := ["math/bits.divideError", "math/bits.overflowError"], apart := false }
def ScaledDemeritsSaid : Prop := scaledDemeritsRow.holds Try.pinned (OpenSpec.ofChange scaledDemeritsSpec)

/-- ITS FALSE NEIGHBOUR: 'it returns false'. Refute it at one input. -/
def scaledDemeritsWrong : ChangeSpec := { name := "scaledDemerits", fn := fun _ => fun
  | [d1, d2, d3] => { results := [.lit (.bool false)], args := [d1, d2, d3] }
  | _ => none }
def ScaledDemeritsWrongFalsely : Prop := scaledDemeritsRow.holds Try.pinned (OpenSpec.ofChange scaledDemeritsWrong)

/-- 'regletlaw01.ScaledSums': WHATEVER THE INPUT: true; the input reads as it did. -/
def scaledSumsSpec : ChangeSpec := { name := "scaledSums", fn := fun _ => fun
  | [d] => { results := [.lit (.bool true)], args := [d] }
  | _ => none }
def scaledSumsRow : OpenClaim := { program := "ytkpikienkmdcaab", sum := "b9cdf3d1e6e9134ee205aa676fb3b0384c8ff4a72740f05b2bb1cd35c3393502", func := "reglet/regletlaw01.ScaledSums", spec := "scaledSums", inPlace := ["math/bits.Add64"], unfollowed := true, recurses := true, apart := false }
def ScaledSumsSaid : Prop := scaledSumsRow.holds Try.pinned (OpenSpec.ofChange scaledSumsSpec)

/-- ITS FALSE NEIGHBOUR: 'it returns false'. Refute it at one input. -/
def scaledSumsWrong : ChangeSpec := { name := "scaledSums", fn := fun _ => fun
  | [d] => { results := [.lit (.bool false)], args := [d] }
  | _ => none }
def ScaledSumsWrongFalsely : Prop := scaledSumsRow.holds Try.pinned (OpenSpec.ofChange scaledSumsWrong)

/-- 'regletlaw01.ScaledBack': WHATEVER THE INPUT: true; the input reads as it did. -/
def scaledBackSpec : ChangeSpec := { name := "scaledBack", fn := fun _ => fun
  | [d1, d2] => { results := [.lit (.bool true)], args := [d1, d2] }
  | _ => none }
def scaledBackRow : OpenClaim := { program := "ytkpikienkmdcaab", sum := "b9cdf3d1e6e9134ee205aa676fb3b0384c8ff4a72740f05b2bb1cd35c3393502", func := "reglet/regletlaw01.ScaledBack", spec := "scaledBack", inPlace := ["math/bits.Add64"], unfollowed := true, recurses := true, apart := false }
def ScaledBackSaid : Prop := scaledBackRow.holds Try.pinned (OpenSpec.ofChange scaledBackSpec)

/-- ITS FALSE NEIGHBOUR: 'it returns false'. Refute it at one input. -/
def scaledBackWrong : ChangeSpec := { name := "scaledBack", fn := fun _ => fun
  | [d1, d2] => { results := [.lit (.bool false)], args := [d1, d2] }
  | _ => none }
def ScaledBackWrongFalsely : Prop := scaledBackRow.holds Try.pinned (OpenSpec.ofChange scaledBackWrong)

/- THE SECOND FORM. 'bulk': how many values and letters a reading holds, each counted each time it is reached (what is shared counts as often as it is met; a slice's spare places count too). A statement '..UptoSaid' is the law's where the arguments, and the package variables that the reading takes, are together of bulk at most 1048576: NARROWER than '..Said'. Prove '..Said' where nothing that the law and all that it calls make is longer than what came in: it says more and counts as full. Else prove '..UptoSaid'. A law counts once. -/
mutual
def uptoBulk {H : Type} : DataW H → Nat
  | .lit (.string bytes) => bytes.length + 1
  | .lit _ => 1
  | .nil => 1
  | .ptr d => uptoBulk d + 1
  | .slice elems spare => uptoBulkAll elems + uptoBulkAll spare + 1
  | .agg parts => uptoBulkAll parts + 1
  | .iface _ d => uptoBulk d + 1
  | .map entries => uptoBulkEntries entries + 1
  | .held _ => 1
def uptoBulkAll {H : Type} : List (DataW H) → Nat
  | [] => 0
  | d :: r => uptoBulk d + uptoBulkAll r
def uptoBulkEntries {H : Type} : List (Lit × DataW H) → Nat
  | [] => 0
  | x :: r => uptoBulkEntry x + uptoBulkEntries r
def uptoBulkEntry {H : Type} : Lit × DataW H → Nat
  | (.string bytes, d) => bytes.length + uptoBulk d + 1
  | (_, d) => uptoBulk d + 1
 end
def uptoSmall : (H : Type) → List (DataW H) → Bool := fun _ ds => decide (uptoBulkAll ds ≤ 1048576)
def OpenSpec.upto (s : _root_.Go.ChangeSpec) : _root_.Go.OpenSpec := { _root_.Go.OpenSpec.ofChange s with cond := some uptoSmall }

/-- 'regletlaw01.ScaledRises', WHERE WHAT IT READS IS OF BULK AT MOST 1048576: true; the input reads as it did. -/
def scaledRisesUptoRow : OpenClaim := { program := "ytkpikienkmdcaab", sum := "b9cdf3d1e6e9134ee205aa676fb3b0384c8ff4a72740f05b2bb1cd35c3393502", func := "reglet/regletlaw01.ScaledRises", spec := "scaledRises", inPlace := ["math/bits.Add64"], unfollowed := true, recurses := true, apart := false, narrowed := true }
def ScaledRisesUptoSaid : Prop := scaledRisesUptoRow.holds Try.pinned (OpenSpec.upto scaledRisesSpec)

/-- 'regletlaw01.ScaledDemerits', WHERE WHAT IT READS IS OF BULK AT MOST 1048576: true; the input reads as it did. -/
def scaledDemeritsUptoRow : OpenClaim := { program := "ytkpikienkmdcaab", sum := "b9cdf3d1e6e9134ee205aa676fb3b0384c8ff4a72740f05b2bb1cd35c3393502", func := "reglet/regletlaw01.ScaledDemerits", spec := "scaledDemerits", inPlace := ["math/bits.Add64"], unfollowed := true, recurses := true, named := ["math/bits.divideError", "math/bits.overflowError"], apart := false, narrowed := true }
def ScaledDemeritsUptoSaid : Prop := scaledDemeritsUptoRow.holds Try.pinned (OpenSpec.upto scaledDemeritsSpec)

/-- 'regletlaw01.ScaledSums', WHERE WHAT IT READS IS OF BULK AT MOST 1048576: true; the input reads as it did. -/
def scaledSumsUptoRow : OpenClaim := { program := "ytkpikienkmdcaab", sum := "b9cdf3d1e6e9134ee205aa676fb3b0384c8ff4a72740f05b2bb1cd35c3393502", func := "reglet/regletlaw01.ScaledSums", spec := "scaledSums", inPlace := ["math/bits.Add64"], unfollowed := true, recurses := true, apart := false, narrowed := true }
def ScaledSumsUptoSaid : Prop := scaledSumsUptoRow.holds Try.pinned (OpenSpec.upto scaledSumsSpec)

/-- 'regletlaw01.ScaledBack', WHERE WHAT IT READS IS OF BULK AT MOST 1048576: true; the input reads as it did. -/
def scaledBackUptoRow : OpenClaim := { program := "ytkpikienkmdcaab", sum := "b9cdf3d1e6e9134ee205aa676fb3b0384c8ff4a72740f05b2bb1cd35c3393502", func := "reglet/regletlaw01.ScaledBack", spec := "scaledBack", inPlace := ["math/bits.Add64"], unfollowed := true, recurses := true, apart := false, narrowed := true }
def ScaledBackUptoSaid : Prop := scaledBackUptoRow.holds Try.pinned (OpenSpec.upto scaledBackSpec)

end Rows
end Go.Proofs.Ytkpikienkmdcaab
