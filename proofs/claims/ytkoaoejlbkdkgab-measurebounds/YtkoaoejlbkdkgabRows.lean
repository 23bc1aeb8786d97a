/-
  No cell of these rows narrows 'for every input' (looked for: loops, veiled, ifaces, maps, wideKeys, modest, calm, conditions, laid).
  DERIVED. THE GIVEN ROWS OF THIS SEAT. 3 by the template 'for every input the law returns true; each argument reads behind the call as it read before'; 0 by the template 'total and deterministic' (their statements: YtkoaoejlbkdkgabTotals.lean).
  GIVEN WITH THE SEED: the statements are not yours to turn. If you find one false, say at which input.
  Laid BY PROGRAM, IN A SANDBOX (cutbox-rows.mjs): the forced cells as the released guide's own fill.sh prints them over the translation f5ec89c8a916d44a… (all of the seat's roots in one cut). By AI agents, Wed Nov 11 2026. No macro, syntax, notation, axiom, sorry.
-/
import Derived.Test.YtkoaoejlbkdkgabChecked
import GoSem.Claim
import GoSem.ClaimJoined
import GoSem.ClaimMapViews
import Derived.JoinedTies
import Derived.KernelRfl
namespace Go.Proofs.Ytkoaoejlbkdkgab
/- THE CELL 'sum', in the pinned program and in every row, IS THE sha256 OF THE DUMP (.gsa) THAT YtkoaoejlbkdkgabProg.lean LOADS. Nothing in Lean hashes anything: it is a label: what it is worth is what the hold of that sum in a sandbox is worth. -/
noncomputable def Try.pinned : Pinned := { name := "ytkoaoejlbkdkgab", sum := "f5ec89c8a916d44a6442f5baca7ebceeb7ca0ec41da55cb3af2dcdeaf303e5ec", checked := Try.checked }
namespace Rows
def none {H : Type} : Left H := { results := [], args := [] }

/-- 'regletlaw08.MeasureCosts': WHATEVER THE INPUT: true; the input reads as it did. -/
def measureCostsSpec : ChangeSpec := { name := "measureCosts", fn := fun _ => fun
  | [d1, d2, d3] => { results := [.lit (.bool true)], args := [d1, d2, d3] }
  | _ => none }
def measureCostsRow : OpenClaim := { program := "ytkoaoejlbkdkgab", sum := "f5ec89c8a916d44a6442f5baca7ebceeb7ca0ec41da55cb3af2dcdeaf303e5ec", func := "reglet/regletlaw08.MeasureCosts", spec := "measureCosts", inPlace := ["math/bits.Add64"], unfollowed := true, recurses := true, named := ["math/bits.divideError", "math/bits.overflowError"], apart := false }
def MeasureCostsSaid : Prop := measureCostsRow.holds Try.pinned (OpenSpec.ofChange measureCostsSpec)

/-- ITS FALSE NEIGHBOUR: 'it returns false'. Refute it at one input. -/
def measureCostsWrong : ChangeSpec := { name := "measureCosts", fn := fun _ => fun
  | [d1, d2, d3] => { results := [.lit (.bool false)], args := [d1, d2, d3] }
  | _ => none }
def MeasureCostsWrongFalsely : Prop := measureCostsRow.holds Try.pinned (OpenSpec.ofChange measureCostsWrong)

/-- 'regletlaw08.MeasureTotals': WHATEVER THE INPUT: true; the input reads as it did. -/
def measureTotalsSpec : ChangeSpec := { name := "measureTotals", fn := fun _ => fun
  | [d1, d2, d3] => { results := [.lit (.bool true)], args := [d1, d2, d3] }
  | _ => none }
def measureTotalsRow : OpenClaim := { program := "ytkoaoejlbkdkgab", sum := "f5ec89c8a916d44a6442f5baca7ebceeb7ca0ec41da55cb3af2dcdeaf303e5ec", func := "reglet/regletlaw08.MeasureTotals", spec := "measureTotals", inPlace := ["math/bits.Add64"], unfollowed := true, recurses := true, apart := false }
def MeasureTotalsSaid : Prop := measureTotalsRow.holds Try.pinned (OpenSpec.ofChange measureTotalsSpec)

/-- ITS FALSE NEIGHBOUR: 'it returns false'. Refute it at one input. -/
def measureTotalsWrong : ChangeSpec := { name := "measureTotals", fn := fun _ => fun
  | [d1, d2, d3] => { results := [.lit (.bool false)], args := [d1, d2, d3] }
  | _ => none }
def MeasureTotalsWrongFalsely : Prop := measureTotalsRow.holds Try.pinned (OpenSpec.ofChange measureTotalsWrong)

/-- 'regletlaw08.MeasureBounds': WHATEVER THE INPUT: true; the input reads as it did. -/
def measureBoundsSpec : ChangeSpec := { name := "measureBounds", fn := fun _ => fun
  | [d1, d2, d3] => { results := [.lit (.bool true)], args := [d1, d2, d3] }
  | _ => none }
def measureBoundsRow : OpenClaim := { program := "ytkoaoejlbkdkgab", sum := "f5ec89c8a916d44a6442f5baca7ebceeb7ca0ec41da55cb3af2dcdeaf303e5ec", func := "reglet/regletlaw08.MeasureBounds", spec := "measureBounds", inPlace := ["math/bits.Add64"], unfollowed := true, recurses := true, apart := false }
def MeasureBoundsSaid : Prop := measureBoundsRow.holds Try.pinned (OpenSpec.ofChange measureBoundsSpec)

/-- ITS FALSE NEIGHBOUR: 'it returns false'. Refute it at one input. -/
def measureBoundsWrong : ChangeSpec := { name := "measureBounds", fn := fun _ => fun
  | [d1, d2, d3] => { results := [.lit (.bool false)], args := [d1, d2, d3] }
  | _ => none }
def MeasureBoundsWrongFalsely : Prop := measureBoundsRow.holds Try.pinned (OpenSpec.ofChange measureBoundsWrong)

/- THE SECOND FORM. 'bulk': how many values and letters a reading holds, each counted each time it is reached (what is shared counts as often as it is met; a slice's spare places count too). A statement '..UptoSaid' is the law's where the arguments, and the package variables that the reading takes, are together of bulk at most 1048576: NARROWER than '..Said'. Prove '..Said' where nothing that the law and all that it calls make is longer than what came in: it says more and counts as full. Else prove '..UptoSaid'. A law counts once. -/
mutual
def uptoBulk {H : Type} : DataW H → Nat
  | .lit (.string bytes) => bytes.length + 1
  | .lit _ => 1
  | .nil => 1
  | .ptr d => uptoBulk d + 1
  | .slice elems spare => uptoBulkAll elems + uptoBulkAll spare + 1
  | .agg parts => uptoBulkAll parts + 1
  | .iface _ d => uptoBulk d + 1
  | .map entries => uptoBulkEntries entries + 1
  | .held _ => 1
def uptoBulkAll {H : Type} : List (DataW H) → Nat
  | [] => 0
  | d :: r => uptoBulk d + uptoBulkAll r
def uptoBulkEntries {H : Type} : List (Lit × DataW H) → Nat
  | [] => 0
  | x :: r => uptoBulkEntry x + uptoBulkEntries r
def uptoBulkEntry {H : Type} : Lit × DataW H → Nat
  | (.string bytes, d) => bytes.length + uptoBulk d + 1
  | (_, d) => uptoBulk d + 1
 end
def uptoSmall : (H : Type) → List (DataW H) → Bool := fun _ ds => decide (uptoBulkAll ds ≤ 1048576)
def OpenSpec.upto (s : _root_.Go.ChangeSpec) : _root_.Go.OpenSpec := { _root_.Go.OpenSpec.ofChange s with cond := some uptoSmall }

/-- 'regletlaw08.MeasureCosts', WHERE WHAT IT READS IS OF BULK AT MOST 1048576: true; the input reads as it did. -/
def measureCostsUptoRow : OpenClaim := { program := "ytkoaoejlbkdkgab", sum := "f5ec89c8a916d44a6442f5baca7ebceeb7ca0ec41da55cb3af2dcdeaf303e5ec", func := "reglet/regletlaw08.MeasureCosts", spec := "measureCosts", inPlace := ["math/bits.Add64"], unfollowed := true, recurses := true, named := ["math/bits.divideError", "math/bits.overflowError"], apart := false, narrowed := true }
def MeasureCostsUptoSaid : Prop := measureCostsUptoRow.holds Try.pinned (OpenSpec.upto measureCostsSpec)

/-- 'regletlaw08.MeasureTotals', WHERE WHAT IT READS IS OF BULK AT MOST 1048576: true; the input reads as it did. -/
def measureTotalsUptoRow : OpenClaim := { program := "ytkoaoejlbkdkgab", sum := "f5ec89c8a916d44a6442f5baca7ebceeb7ca0ec41da55cb3af2dcdeaf303e5ec", func := "reglet/regletlaw08.MeasureTotals", spec := "measureTotals", inPlace := ["math/bits.Add64"], unfollowed := true, recurses := true, apart := false, narrowed := true }
def MeasureTotalsUptoSaid : Prop := measureTotalsUptoRow.holds Try.pinned (OpenSpec.upto measureTotalsSpec)

/-- 'regletlaw08.MeasureBounds', WHERE WHAT IT READS IS OF BULK AT MOST 1048576: true; the input reads as it did. -/
def measureBoundsUptoRow : OpenClaim := { program := "ytkoaoejlbkdkgab", sum := "f5ec89c8a916d44a6442f5baca7ebceeb7ca0ec41da55cb3af2dcdeaf303e5ec", func := "reglet/regletlaw08.MeasureBounds", spec := "measureBounds", inPlace := ["math/bits.Add64"], unfollowed := true, recurses := true, apart := false, narrowed := true }
def MeasureBoundsUptoSaid : Prop := measureBoundsUptoRow.holds Try.pinned (OpenSpec.upto measureBoundsSpec)

end Rows
end Go.Proofs.Ytkoaoejlbkdkgab
