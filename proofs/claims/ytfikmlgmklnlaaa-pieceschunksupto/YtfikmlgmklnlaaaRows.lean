/-
  No cell of these rows narrows 'for every input' (looked for: loops, veiled, ifaces, maps, wideKeys, modest, calm, conditions, laid).
  DERIVED. THE GIVEN ROWS OF THIS SEAT. 6 by the template 'for every input the law returns true; each argument reads behind the call as it read before'; 0 by the template 'total and deterministic' (their statements: YtfikmlgmklnlaaaTotals.lean).
  GIVEN WITH THE SEED: the statements are not yours to turn. If you find one false, say at which input.
  Laid BY PROGRAM, IN A SANDBOX (cutbox-rows.mjs): the forced cells as the released guide's own fill.sh prints them over the translation 67e6db0af7773b5f… (all of the seat's roots in one cut). By AI agents, Wed Nov 11 2026. No macro, syntax, notation, axiom, sorry.
-/
import Derived.Test.YtfikmlgmklnlaaaChecked
import GoSem.Claim
import GoSem.ClaimJoined
import GoSem.ClaimMapViews
import Derived.JoinedTies
import Derived.KernelRfl
namespace Go.Proofs.Ytfikmlgmklnlaaa
/- THE CELL 'sum', in the pinned program and in every row, IS THE sha256 OF THE DUMP (.gsa) THAT YtfikmlgmklnlaaaProg.lean LOADS. Nothing in Lean hashes anything: it is a label: what it is worth is what the hold of that sum in a sandbox is worth. -/
noncomputable def Try.pinned : Pinned := { name := "ytfikmlgmklnlaaa", sum := "67e6db0af7773b5fbad4bbde5b0342803fb1cc2defe899d3dce66eba01f7de68", checked := Try.checked }
namespace Rows
def none {H : Type} : Left H := { results := [], args := [] }

/-- 'regletlaw03.PiecesPlays': WHATEVER THE INPUT: true; the input reads as it did. -/
def piecesPlaysSpec : ChangeSpec := { name := "piecesPlays", fn := fun _ => fun
  | [d1, d2] => { results := [.lit (.bool true)], args := [d1, d2] }
  | _ => none }
def piecesPlaysRow : OpenClaim := { program := "ytfikmlgmklnlaaa", sum := "67e6db0af7773b5fbad4bbde5b0342803fb1cc2defe899d3dce66eba01f7de68", func := "reglet/regletlaw03.PiecesPlays", spec := "piecesPlays", inPlace := ["internal/abi.NoEscape", "internal/bytealg.MakeNoZero"], unfollowed := true, recurses := true, apart := false }
def PiecesPlaysSaid : Prop := piecesPlaysRow.holds Try.pinned (OpenSpec.ofChange piecesPlaysSpec)

/-- ITS FALSE NEIGHBOUR: 'it returns false'. Refute it at one input. -/
def piecesPlaysWrong : ChangeSpec := { name := "piecesPlays", fn := fun _ => fun
  | [d1, d2] => { results := [.lit (.bool false)], args := [d1, d2] }
  | _ => none }
def PiecesPlaysWrongFalsely : Prop := piecesPlaysRow.holds Try.pinned (OpenSpec.ofChange piecesPlaysWrong)

/-- 'regletlaw03.PiecesBegins': WHATEVER THE INPUT: true; the input reads as it did. -/
def piecesBeginsSpec : ChangeSpec := { name := "piecesBegins", fn := fun _ => fun
  | [d] => { results := [.lit (.bool true)], args := [d] }
  | _ => none }
def piecesBeginsRow : OpenClaim := { program := "ytfikmlgmklnlaaa", sum := "67e6db0af7773b5fbad4bbde5b0342803fb1cc2defe899d3dce66eba01f7de68", func := "reglet/regletlaw03.PiecesBegins", spec := "piecesBegins", inPlace := ["internal/abi.NoEscape", "internal/bytealg.MakeNoZero"], unfollowed := true, recurses := true, apart := false }
def PiecesBeginsSaid : Prop := piecesBeginsRow.holds Try.pinned (OpenSpec.ofChange piecesBeginsSpec)

/-- ITS FALSE NEIGHBOUR: 'it returns false'. Refute it at one input. -/
def piecesBeginsWrong : ChangeSpec := { name := "piecesBegins", fn := fun _ => fun
  | [d] => { results := [.lit (.bool false)], args := [d] }
  | _ => none }
def PiecesBeginsWrongFalsely : Prop := piecesBeginsRow.holds Try.pinned (OpenSpec.ofChange piecesBeginsWrong)

/-- 'regletlaw03.PiecesReads': WHATEVER THE INPUT: true; the input reads as it did. -/
def piecesReadsSpec : ChangeSpec := { name := "piecesReads", fn := fun _ => fun
  | [d1, d2, d3] => { results := [.lit (.bool true)], args := [d1, d2, d3] }
  | _ => none }
def piecesReadsRow : OpenClaim := { program := "ytfikmlgmklnlaaa", sum := "67e6db0af7773b5fbad4bbde5b0342803fb1cc2defe899d3dce66eba01f7de68", func := "reglet/regletlaw03.PiecesReads", spec := "piecesReads", inPlace := ["internal/abi.NoEscape", "internal/bytealg.MakeNoZero"], unfollowed := true, recurses := true, apart := false }
def PiecesReadsSaid : Prop := piecesReadsRow.holds Try.pinned (OpenSpec.ofChange piecesReadsSpec)

/-- ITS FALSE NEIGHBOUR: 'it returns false'. Refute it at one input. -/
def piecesReadsWrong : ChangeSpec := { name := "piecesReads", fn := fun _ => fun
  | [d1, d2, d3] => { results := [.lit (.bool false)], args := [d1, d2, d3] }
  | _ => none }
def PiecesReadsWrongFalsely : Prop := piecesReadsRow.holds Try.pinned (OpenSpec.ofChange piecesReadsWrong)

/-- 'regletlaw03.PiecesCounts': WHATEVER THE INPUT: true; the input reads as it did. -/
def piecesCountsSpec : ChangeSpec := { name := "piecesCounts", fn := fun _ => fun
  | [d1, d2, d3] => { results := [.lit (.bool true)], args := [d1, d2, d3] }
  | _ => none }
def piecesCountsRow : OpenClaim := { program := "ytfikmlgmklnlaaa", sum := "67e6db0af7773b5fbad4bbde5b0342803fb1cc2defe899d3dce66eba01f7de68", func := "reglet/regletlaw03.PiecesCounts", spec := "piecesCounts", inPlace := ["internal/abi.NoEscape", "internal/bytealg.MakeNoZero"], unfollowed := true, recurses := true, apart := false }
def PiecesCountsSaid : Prop := piecesCountsRow.holds Try.pinned (OpenSpec.ofChange piecesCountsSpec)

/-- ITS FALSE NEIGHBOUR: 'it returns false'. Refute it at one input. -/
def piecesCountsWrong : ChangeSpec := { name := "piecesCounts", fn := fun _ => fun
  | [d1, d2, d3] => { results := [.lit (.bool false)], args := [d1, d2, d3] }
  | _ => none }
def PiecesCountsWrongFalsely : Prop := piecesCountsRow.holds Try.pinned (OpenSpec.ofChange piecesCountsWrong)

/-- 'regletlaw03.PiecesShape': WHATEVER THE INPUT: true; the input reads as it did. -/
def piecesShapeSpec : ChangeSpec := { name := "piecesShape", fn := fun _ => fun
  | [d1, d2] => { results := [.lit (.bool true)], args := [d1, d2] }
  | _ => none }
def piecesShapeRow : OpenClaim := { program := "ytfikmlgmklnlaaa", sum := "67e6db0af7773b5fbad4bbde5b0342803fb1cc2defe899d3dce66eba01f7de68", func := "reglet/regletlaw03.PiecesShape", spec := "piecesShape", inPlace := ["internal/abi.NoEscape", "internal/bytealg.MakeNoZero"], unfollowed := true, recurses := true, apart := false }
def PiecesShapeSaid : Prop := piecesShapeRow.holds Try.pinned (OpenSpec.ofChange piecesShapeSpec)

/-- ITS FALSE NEIGHBOUR: 'it returns false'. Refute it at one input. -/
def piecesShapeWrong : ChangeSpec := { name := "piecesShape", fn := fun _ => fun
  | [d1, d2] => { results := [.lit (.bool false)], args := [d1, d2] }
  | _ => none }
def PiecesShapeWrongFalsely : Prop := piecesShapeRow.holds Try.pinned (OpenSpec.ofChange piecesShapeWrong)

/-- 'regletlaw03.PiecesChunks': WHATEVER THE INPUT: true; the input reads as it did. -/
def piecesChunksSpec : ChangeSpec := { name := "piecesChunks", fn := fun _ => fun
  | [d1, d2, d3] => { results := [.lit (.bool true)], args := [d1, d2, d3] }
  | _ => none }
def piecesChunksRow : OpenClaim := { program := "ytfikmlgmklnlaaa", sum := "67e6db0af7773b5fbad4bbde5b0342803fb1cc2defe899d3dce66eba01f7de68", func := "reglet/regletlaw03.PiecesChunks", spec := "piecesChunks", inPlace := ["internal/abi.NoEscape", "internal/bytealg.MakeNoZero"], unfollowed := true, recurses := true, apart := false }
def PiecesChunksSaid : Prop := piecesChunksRow.holds Try.pinned (OpenSpec.ofChange piecesChunksSpec)

/-- ITS FALSE NEIGHBOUR: 'it returns false'. Refute it at one input. -/
def piecesChunksWrong : ChangeSpec := { name := "piecesChunks", fn := fun _ => fun
  | [d1, d2, d3] => { results := [.lit (.bool false)], args := [d1, d2, d3] }
  | _ => none }
def PiecesChunksWrongFalsely : Prop := piecesChunksRow.holds Try.pinned (OpenSpec.ofChange piecesChunksWrong)

/- THE SECOND FORM. 'bulk': how many values and letters a reading holds, each counted each time it is reached (what is shared counts as often as it is met; a slice's spare places count too). A statement '..UptoSaid' is the law's where the arguments, and the package variables that the reading takes, are together of bulk at most 1048576: NARROWER than '..Said'. Prove '..Said' where nothing that the law and all that it calls make is longer than what came in: it says more and counts as full. Else prove '..UptoSaid'. A law counts once. -/
mutual
def uptoBulk {H : Type} : DataW H → Nat
  | .lit (.string bytes) => bytes.length + 1
  | .lit _ => 1
  | .nil => 1
  | .ptr d => uptoBulk d + 1
  | .slice elems spare => uptoBulkAll elems + uptoBulkAll spare + 1
  | .agg parts => uptoBulkAll parts + 1
  | .iface _ d => uptoBulk d + 1
  | .map entries => uptoBulkEntries entries + 1
  | .held _ => 1
def uptoBulkAll {H : Type} : List (DataW H) → Nat
  | [] => 0
  | d :: r => uptoBulk d + uptoBulkAll r
def uptoBulkEntries {H : Type} : List (Lit × DataW H) → Nat
  | [] => 0
  | x :: r => uptoBulkEntry x + uptoBulkEntries r
def uptoBulkEntry {H : Type} : Lit × DataW H → Nat
  | (.string bytes, d) => bytes.length + uptoBulk d + 1
  | (_, d) => uptoBulk d + 1
 end
def uptoSmall : (H : Type) → List (DataW H) → Bool := fun _ ds => decide (uptoBulkAll ds ≤ 1048576)
def OpenSpec.upto (s : _root_.Go.ChangeSpec) : _root_.Go.OpenSpec := { _root_.Go.OpenSpec.ofChange s with cond := some uptoSmall }

/-- 'regletlaw03.PiecesPlays', WHERE WHAT IT READS IS OF BULK AT MOST 1048576: true; the input reads as it did. -/
def piecesPlaysUptoRow : OpenClaim := { program := "ytfikmlgmklnlaaa", sum := "67e6db0af7773b5fbad4bbde5b0342803fb1cc2defe899d3dce66eba01f7de68", func := "reglet/regletlaw03.PiecesPlays", spec := "piecesPlays", inPlace := ["internal/abi.NoEscape", "internal/bytealg.MakeNoZero"], unfollowed := true, recurses := true, apart := false, narrowed := true }
def PiecesPlaysUptoSaid : Prop := piecesPlaysUptoRow.holds Try.pinned (OpenSpec.upto piecesPlaysSpec)

/-- 'regletlaw03.PiecesBegins', WHERE WHAT IT READS IS OF BULK AT MOST 1048576: true; the input reads as it did. -/
def piecesBeginsUptoRow : OpenClaim := { program := "ytfikmlgmklnlaaa", sum := "67e6db0af7773b5fbad4bbde5b0342803fb1cc2defe899d3dce66eba01f7de68", func := "reglet/regletlaw03.PiecesBegins", spec := "piecesBegins", inPlace := ["internal/abi.NoEscape", "internal/bytealg.MakeNoZero"], unfollowed := true, recurses := true, apart := false, narrowed := true }
def PiecesBeginsUptoSaid : Prop := piecesBeginsUptoRow.holds Try.pinned (OpenSpec.upto piecesBeginsSpec)

/-- 'regletlaw03.PiecesReads', WHERE WHAT IT READS IS OF BULK AT MOST 1048576: true; the input reads as it did. -/
def piecesReadsUptoRow : OpenClaim := { program := "ytfikmlgmklnlaaa", sum := "67e6db0af7773b5fbad4bbde5b0342803fb1cc2defe899d3dce66eba01f7de68", func := "reglet/regletlaw03.PiecesReads", spec := "piecesReads", inPlace := ["internal/abi.NoEscape", "internal/bytealg.MakeNoZero"], unfollowed := true, recurses := true, apart := false, narrowed := true }
def PiecesReadsUptoSaid : Prop := piecesReadsUptoRow.holds Try.pinned (OpenSpec.upto piecesReadsSpec)

/-- 'regletlaw03.PiecesCounts', WHERE WHAT IT READS IS OF BULK AT MOST 1048576: true; the input reads as it did. -/
def piecesCountsUptoRow : OpenClaim := { program := "ytfikmlgmklnlaaa", sum := "67e6db0af7773b5fbad4bbde5b0342803fb1cc2defe899d3dce66eba01f7de68", func := "reglet/regletlaw03.PiecesCounts", spec := "piecesCounts", inPlace := ["internal/abi.NoEscape", "internal/bytealg.MakeNoZero"], unfollowed := true, recurses := true, apart := false, narrowed := true }
def PiecesCountsUptoSaid : Prop := piecesCountsUptoRow.holds Try.pinned (OpenSpec.upto piecesCountsSpec)

/-- 'regletlaw03.PiecesShape', WHERE WHAT IT READS IS OF BULK AT MOST 1048576: true; the input reads as it did. -/
def piecesShapeUptoRow : OpenClaim := { program := "ytfikmlgmklnlaaa", sum := "67e6db0af7773b5fbad4bbde5b0342803fb1cc2defe899d3dce66eba01f7de68", func := "reglet/regletlaw03.PiecesShape", spec := "piecesShape", inPlace := ["internal/abi.NoEscape", "internal/bytealg.MakeNoZero"], unfollowed := true, recurses := true, apart := false, narrowed := true }
def PiecesShapeUptoSaid : Prop := piecesShapeUptoRow.holds Try.pinned (OpenSpec.upto piecesShapeSpec)

/-- 'regletlaw03.PiecesChunks', WHERE WHAT IT READS IS OF BULK AT MOST 1048576: true; the input reads as it did. -/
def piecesChunksUptoRow : OpenClaim := { program := "ytfikmlgmklnlaaa", sum := "67e6db0af7773b5fbad4bbde5b0342803fb1cc2defe899d3dce66eba01f7de68", func := "reglet/regletlaw03.PiecesChunks", spec := "piecesChunks", inPlace := ["internal/abi.NoEscape", "internal/bytealg.MakeNoZero"], unfollowed := true, recurses := true, apart := false, narrowed := true }
def PiecesChunksUptoSaid : Prop := piecesChunksUptoRow.holds Try.pinned (OpenSpec.upto piecesChunksSpec)

end Rows
end Go.Proofs.Ytfikmlgmklnlaaa
