/-
  No cell of these rows narrows 'for every input' (looked for: loops, veiled, ifaces, maps, wideKeys, modest, calm, conditions, laid).
  DERIVED. THE GIVEN ROWS OF THIS SEAT. 6 by the template 'for every input the law returns true; each argument reads behind the call as it read before'; 0 by the template 'total and deterministic' (their statements: YtkpikienkmdcaaaTotals.lean).
  GIVEN WITH THE SEED: the statements are not yours to turn. If you find one false, say at which input.
  Laid BY PROGRAM, IN A SANDBOX (cutbox-rows.mjs): the forced cells as the released guide's own fill.sh prints them over the translation a62b1744aa51edbf… (all of the seat's roots in one cut). By AI agents, Wed Nov 11 2026. No macro, syntax, notation, axiom, sorry.
-/
import Derived.Test.YtkpikienkmdcaaaChecked
import GoSem.Claim
import GoSem.ClaimJoined
import GoSem.ClaimMapViews
import Derived.JoinedTies
import Derived.KernelRfl
namespace Go.Proofs.Ytkpikienkmdcaaa
/- THE CELL 'sum', in the pinned program and in every row, IS THE sha256 OF THE DUMP (.gsa) THAT YtkpikienkmdcaaaProg.lean LOADS. Nothing in Lean hashes anything: it is a label: what it is worth is what the hold of that sum in a sandbox is worth. -/
noncomputable def Try.pinned : Pinned := { name := "ytkpikienkmdcaaa", sum := "a62b1744aa51edbfa12368c6a71461431a0171264ae886aa717279ba64624f7e", checked := Try.checked }
namespace Rows
def none {H : Type} : Left H := { results := [], args := [] }

/-- 'regletlaw01.ScaledAdds': WHATEVER THE INPUT: true; the input reads as it did. -/
def scaledAddsSpec : ChangeSpec := { name := "scaledAdds", fn := fun _ => fun
  | [d1, d2] => { results := [.lit (.bool true)], args := [d1, d2] }
  | _ => none }
def scaledAddsRow : OpenClaim := { program := "ytkpikienkmdcaaa", sum := "a62b1744aa51edbfa12368c6a71461431a0171264ae886aa717279ba64624f7e", func := "reglet/regletlaw01.ScaledAdds", spec := "scaledAdds", inPlace := ["math/bits.Add64"], unfollowed := true, recurses := true, named := ["math/bits.divideError", "math/bits.overflowError"], apart := false }
def ScaledAddsSaid : Prop := scaledAddsRow.holds Try.pinned (OpenSpec.ofChange scaledAddsSpec)

/-- ITS FALSE NEIGHBOUR: 'it returns false'. Refute it at one input. -/
def scaledAddsWrong : ChangeSpec := { name := "scaledAdds", fn := fun _ => fun
  | [d1, d2] => { results := [.lit (.bool false)], args := [d1, d2] }
  | _ => none }
def ScaledAddsWrongFalsely : Prop := scaledAddsRow.holds Try.pinned (OpenSpec.ofChange scaledAddsWrong)

/-- 'regletlaw01.ScaledDivides': WHATEVER THE INPUT: true; the input reads as it did. -/
def scaledDividesSpec : ChangeSpec := { name := "scaledDivides", fn := fun _ => fun
  | [d1, d2] => { results := [.lit (.bool true)], args := [d1, d2] }
  | _ => none }
def scaledDividesRow : OpenClaim := { program := "ytkpikienkmdcaaa", sum := "a62b1744aa51edbfa12368c6a71461431a0171264ae886aa717279ba64624f7e", func := "reglet/regletlaw01.ScaledDivides", spec := "scaledDivides", inPlace := ["math/bits.Add64"], unfollowed := true, recurses := true, apart := false }
def ScaledDividesSaid : Prop := scaledDividesRow.holds Try.pinned (OpenSpec.ofChange scaledDividesSpec)

/-- ITS FALSE NEIGHBOUR: 'it returns false'. Refute it at one input. -/
def scaledDividesWrong : ChangeSpec := { name := "scaledDivides", fn := fun _ => fun
  | [d1, d2] => { results := [.lit (.bool false)], args := [d1, d2] }
  | _ => none }
def ScaledDividesWrongFalsely : Prop := scaledDividesRow.holds Try.pinned (OpenSpec.ofChange scaledDividesWrong)

/-- 'regletlaw01.ScaledShares': WHATEVER THE INPUT: true; the input reads as it did. -/
def scaledSharesSpec : ChangeSpec := { name := "scaledShares", fn := fun _ => fun
  | [d1, d2, d3] => { results := [.lit (.bool true)], args := [d1, d2, d3] }
  | _ => none }
def scaledSharesRow : OpenClaim := { program := "ytkpikienkmdcaaa", sum := "a62b1744aa51edbfa12368c6a71461431a0171264ae886aa717279ba64624f7e", func := "reglet/regletlaw01.ScaledShares", spec := "scaledShares", inPlace := ["math/bits.Add64"], unfollowed := true, recurses := true, named := ["math/bits.divideError", "math/bits.overflowError"], apart := false }
def ScaledSharesSaid : Prop := scaledSharesRow.holds Try.pinned (OpenSpec.ofChange scaledSharesSpec)

/-- ITS FALSE NEIGHBOUR: 'it returns false'. Refute it at one input. -/
def scaledSharesWrong : ChangeSpec := { name := "scaledShares", fn := fun _ => fun
  | [d1, d2, d3] => { results := [.lit (.bool false)], args := [d1, d2, d3] }
  | _ => none }
def ScaledSharesWrongFalsely : Prop := scaledSharesRow.holds Try.pinned (OpenSpec.ofChange scaledSharesWrong)

/-- 'regletlaw01.ScaledLowest': WHATEVER THE INPUT: true; the input reads as it did. -/
def scaledLowestSpec : ChangeSpec := { name := "scaledLowest", fn := fun _ => fun
  | [d1, d2] => { results := [.lit (.bool true)], args := [d1, d2] }
  | _ => none }
def scaledLowestRow : OpenClaim := { program := "ytkpikienkmdcaaa", sum := "a62b1744aa51edbfa12368c6a71461431a0171264ae886aa717279ba64624f7e", func := "reglet/regletlaw01.ScaledLowest", spec := "scaledLowest", inPlace := ["math/bits.Add64"], unfollowed := true, recurses := true, apart := false }
def ScaledLowestSaid : Prop := scaledLowestRow.holds Try.pinned (OpenSpec.ofChange scaledLowestSpec)

/-- ITS FALSE NEIGHBOUR: 'it returns false'. Refute it at one input. -/
def scaledLowestWrong : ChangeSpec := { name := "scaledLowest", fn := fun _ => fun
  | [d1, d2] => { results := [.lit (.bool false)], args := [d1, d2] }
  | _ => none }
def ScaledLowestWrongFalsely : Prop := scaledLowestRow.holds Try.pinned (OpenSpec.ofChange scaledLowestWrong)

/-- 'regletlaw01.ScaledOrders': WHATEVER THE INPUT: true; the input reads as it did. -/
def scaledOrdersSpec : ChangeSpec := { name := "scaledOrders", fn := fun _ => fun
  | [d] => { results := [.lit (.bool true)], args := [d] }
  | _ => none }
def scaledOrdersRow : OpenClaim := { program := "ytkpikienkmdcaaa", sum := "a62b1744aa51edbfa12368c6a71461431a0171264ae886aa717279ba64624f7e", func := "reglet/regletlaw01.ScaledOrders", spec := "scaledOrders", inPlace := ["math/bits.Add64"], unfollowed := true, recurses := true, apart := false }
def ScaledOrdersSaid : Prop := scaledOrdersRow.holds Try.pinned (OpenSpec.ofChange scaledOrdersSpec)

/-- ITS FALSE NEIGHBOUR: 'it returns false'. Refute it at one input. -/
def scaledOrdersWrong : ChangeSpec := { name := "scaledOrders", fn := fun _ => fun
  | [d] => { results := [.lit (.bool false)], args := [d] }
  | _ => none }
def ScaledOrdersWrongFalsely : Prop := scaledOrdersRow.holds Try.pinned (OpenSpec.ofChange scaledOrdersWrong)

/-- 'regletlaw01.ScaledBad': WHATEVER THE INPUT: true; the input reads as it did. -/
def scaledBadSpec : ChangeSpec := { name := "scaledBad", fn := fun _ => fun
  | [d1, d2] => { results := [.lit (.bool true)], args := [d1, d2] }
  | _ => none }
def scaledBadRow : OpenClaim := { program := "ytkpikienkmdcaaa", sum := "a62b1744aa51edbfa12368c6a71461431a0171264ae886aa717279ba64624f7e", func := "reglet/regletlaw01.ScaledBad", spec := "scaledBad", inPlace := ["math/bits.Add64"], unfollowed := true, recurses := true, apart := false }
def ScaledBadSaid : Prop := scaledBadRow.holds Try.pinned (OpenSpec.ofChange scaledBadSpec)

/-- ITS FALSE NEIGHBOUR: 'it returns false'. Refute it at one input. -/
def scaledBadWrong : ChangeSpec := { name := "scaledBad", fn := fun _ => fun
  | [d1, d2] => { results := [.lit (.bool false)], args := [d1, d2] }
  | _ => none }
def ScaledBadWrongFalsely : Prop := scaledBadRow.holds Try.pinned (OpenSpec.ofChange scaledBadWrong)

/- THE SECOND FORM. 'bulk': how many values and letters a reading holds, each counted each time it is reached (what is shared counts as often as it is met; a slice's spare places count too). A statement '..UptoSaid' is the law's where the arguments, and the package variables that the reading takes, are together of bulk at most 1048576: NARROWER than '..Said'. Prove '..Said' where nothing that the law and all that it calls make is longer than what came in: it says more and counts as full. Else prove '..UptoSaid'. A law counts once. -/
mutual
def uptoBulk {H : Type} : DataW H → Nat
  | .lit (.string bytes) => bytes.length + 1
  | .lit _ => 1
  | .nil => 1
  | .ptr d => uptoBulk d + 1
  | .slice elems spare => uptoBulkAll elems + uptoBulkAll spare + 1
  | .agg parts => uptoBulkAll parts + 1
  | .iface _ d => uptoBulk d + 1
  | .map entries => uptoBulkEntries entries + 1
  | .held _ => 1
def uptoBulkAll {H : Type} : List (DataW H) → Nat
  | [] => 0
  | d :: r => uptoBulk d + uptoBulkAll r
def uptoBulkEntries {H : Type} : List (Lit × DataW H) → Nat
  | [] => 0
  | x :: r => uptoBulkEntry x + uptoBulkEntries r
def uptoBulkEntry {H : Type} : Lit × DataW H → Nat
  | (.string bytes, d) => bytes.length + uptoBulk d + 1
  | (_, d) => uptoBulk d + 1
 end
def uptoSmall : (H : Type) → List (DataW H) → Bool := fun _ ds => decide (uptoBulkAll ds ≤ 1048576)
def OpenSpec.upto (s : _root_.Go.ChangeSpec) : _root_.Go.OpenSpec := { _root_.Go.OpenSpec.ofChange s with cond := some uptoSmall }

/-- 'regletlaw01.ScaledAdds', WHERE WHAT IT READS IS OF BULK AT MOST 1048576: true; the input reads as it did. -/
def scaledAddsUptoRow : OpenClaim := { program := "ytkpikienkmdcaaa", sum := "a62b1744aa51edbfa12368c6a71461431a0171264ae886aa717279ba64624f7e", func := "reglet/regletlaw01.ScaledAdds", spec := "scaledAdds", inPlace := ["math/bits.Add64"], unfollowed := true, recurses := true, named := ["math/bits.divideError", "math/bits.overflowError"], apart := false, narrowed := true }
def ScaledAddsUptoSaid : Prop := scaledAddsUptoRow.holds Try.pinned (OpenSpec.upto scaledAddsSpec)

/-- 'regletlaw01.ScaledDivides', WHERE WHAT IT READS IS OF BULK AT MOST 1048576: true; the input reads as it did. -/
def scaledDividesUptoRow : OpenClaim := { program := "ytkpikienkmdcaaa", sum := "a62b1744aa51edbfa12368c6a71461431a0171264ae886aa717279ba64624f7e", func := "reglet/regletlaw01.ScaledDivides", spec := "scaledDivides", inPlace := ["math/bits.Add64"], unfollowed := true, recurses := true, apart := false, narrowed := true }
def ScaledDividesUptoSaid : Prop := scaledDividesUptoRow.holds Try.pinned (OpenSpec.upto scaledDividesSpec)

/-- 'regletlaw01.ScaledShares', WHERE WHAT IT READS IS OF BULK AT MOST 1048576: true; the input reads as it did. -/
def scaledSharesUptoRow : OpenClaim := { program := "ytkpikienkmdcaaa", sum := "a62b1744aa51edbfa12368c6a71461431a0171264ae886aa717279ba64624f7e", func := "reglet/regletlaw01.ScaledShares", spec := "scaledShares", inPlace := ["math/bits.Add64"], unfollowed := true, recurses := true, named := ["math/bits.divideError", "math/bits.overflowError"], apart := false, narrowed := true }
def ScaledSharesUptoSaid : Prop := scaledSharesUptoRow.holds Try.pinned (OpenSpec.upto scaledSharesSpec)

/-- 'regletlaw01.ScaledLowest', WHERE WHAT IT READS IS OF BULK AT MOST 1048576: true; the input reads as it did. -/
def scaledLowestUptoRow : OpenClaim := { program := "ytkpikienkmdcaaa", sum := "a62b1744aa51edbfa12368c6a71461431a0171264ae886aa717279ba64624f7e", func := "reglet/regletlaw01.ScaledLowest", spec := "scaledLowest", inPlace := ["math/bits.Add64"], unfollowed := true, recurses := true, apart := false, narrowed := true }
def ScaledLowestUptoSaid : Prop := scaledLowestUptoRow.holds Try.pinned (OpenSpec.upto scaledLowestSpec)

/-- 'regletlaw01.ScaledOrders', WHERE WHAT IT READS IS OF BULK AT MOST 1048576: true; the input reads as it did. -/
def scaledOrdersUptoRow : OpenClaim := { program := "ytkpikienkmdcaaa", sum := "a62b1744aa51edbfa12368c6a71461431a0171264ae886aa717279ba64624f7e", func := "reglet/regletlaw01.ScaledOrders", spec := "scaledOrders", inPlace := ["math/bits.Add64"], unfollowed := true, recurses := true, apart := false, narrowed := true }
def ScaledOrdersUptoSaid : Prop := scaledOrdersUptoRow.holds Try.pinned (OpenSpec.upto scaledOrdersSpec)

/-- 'regletlaw01.ScaledBad', WHERE WHAT IT READS IS OF BULK AT MOST 1048576: true; the input reads as it did. -/
def scaledBadUptoRow : OpenClaim := { program := "ytkpikienkmdcaaa", sum := "a62b1744aa51edbfa12368c6a71461431a0171264ae886aa717279ba64624f7e", func := "reglet/regletlaw01.ScaledBad", spec := "scaledBad", inPlace := ["math/bits.Add64"], unfollowed := true, recurses := true, apart := false, narrowed := true }
def ScaledBadUptoSaid : Prop := scaledBadUptoRow.holds Try.pinned (OpenSpec.upto scaledBadSpec)

end Rows
end Go.Proofs.Ytkpikienkmdcaaa
