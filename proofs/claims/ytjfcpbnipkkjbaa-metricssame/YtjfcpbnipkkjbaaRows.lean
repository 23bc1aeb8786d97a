/-
  No cell of these rows narrows 'for every input' (looked for: loops, veiled, ifaces, maps, wideKeys, modest, calm, conditions, laid).
  DERIVED. THE GIVEN ROWS OF THIS SEAT. 6 by the template 'for every input the law returns true; each argument reads behind the call as it read before'; 0 by the template 'total and deterministic' (their statements: YtjfcpbnipkkjbaaTotals.lean).
  GIVEN WITH THE SEED: the statements are not yours to turn. If you find one false, say at which input.
  Laid BY PROGRAM, IN A SANDBOX (cutbox-rows.mjs): the forced cells as the released guide's own fill.sh prints them over the translation f73352588a05adff… (all of the seat's roots in one cut). By AI agents, Wed Nov 11 2026. No macro, syntax, notation, axiom, sorry.
-/
import Derived.Test.YtjfcpbnipkkjbaaChecked
import GoSem.Claim
import GoSem.ClaimJoined
import GoSem.ClaimMapViews
import Derived.JoinedTies
import Derived.KernelRfl
namespace Go.Proofs.Ytjfcpbnipkkjbaa
/- THE CELL 'sum', in the pinned program and in every row, IS THE sha256 OF THE DUMP (.gsa) THAT YtjfcpbnipkkjbaaProg.lean LOADS. Nothing in Lean hashes anything: it is a label: what it is worth is what the hold of that sum in a sandbox is worth. -/
noncomputable def Try.pinned : Pinned := { name := "ytjfcpbnipkkjbaa", sum := "f73352588a05adffd3125ed0cf5ee71ed86edfb83b77a3ab2dce980d4ae07318", checked := Try.checked }
namespace Rows
def none {H : Type} : Left H := { results := [], args := [] }

/-- 'regletlaw04.MetricsTakes': WHATEVER THE INPUT: true; the input reads as it did. -/
def metricsTakesSpec : ChangeSpec := { name := "metricsTakes", fn := fun _ => fun
  | [d] => { results := [.lit (.bool true)], args := [d] }
  | _ => none }
def metricsTakesRow : OpenClaim := { program := "ytjfcpbnipkkjbaa", sum := "f73352588a05adffd3125ed0cf5ee71ed86edfb83b77a3ab2dce980d4ae07318", func := "reglet/regletlaw04.MetricsTakes", spec := "metricsTakes", unfollowed := true, recurses := true, apart := false }
def MetricsTakesSaid : Prop := metricsTakesRow.holds Try.pinned (OpenSpec.ofChange metricsTakesSpec)

/-- ITS FALSE NEIGHBOUR: 'it returns false'. Refute it at one input. -/
def metricsTakesWrong : ChangeSpec := { name := "metricsTakes", fn := fun _ => fun
  | [d] => { results := [.lit (.bool false)], args := [d] }
  | _ => none }
def MetricsTakesWrongFalsely : Prop := metricsTakesRow.holds Try.pinned (OpenSpec.ofChange metricsTakesWrong)

/-- 'regletlaw04.MetricsTells': WHATEVER THE INPUT: true; the input reads as it did. -/
def metricsTellsSpec : ChangeSpec := { name := "metricsTells", fn := fun _ => fun
  | [d1, d2] => { results := [.lit (.bool true)], args := [d1, d2] }
  | _ => none }
def metricsTellsRow : OpenClaim := { program := "ytjfcpbnipkkjbaa", sum := "f73352588a05adffd3125ed0cf5ee71ed86edfb83b77a3ab2dce980d4ae07318", func := "reglet/regletlaw04.MetricsTells", spec := "metricsTells", unfollowed := true, recurses := true, apart := false }
def MetricsTellsSaid : Prop := metricsTellsRow.holds Try.pinned (OpenSpec.ofChange metricsTellsSpec)

/-- ITS FALSE NEIGHBOUR: 'it returns false'. Refute it at one input. -/
def metricsTellsWrong : ChangeSpec := { name := "metricsTells", fn := fun _ => fun
  | [d1, d2] => { results := [.lit (.bool false)], args := [d1, d2] }
  | _ => none }
def MetricsTellsWrongFalsely : Prop := metricsTellsRow.holds Try.pinned (OpenSpec.ofChange metricsTellsWrong)

/-- 'regletlaw04.MetricsWidths': WHATEVER THE INPUT: true; the input reads as it did. -/
def metricsWidthsSpec : ChangeSpec := { name := "metricsWidths", fn := fun _ => fun
  | [d1, d2, d3] => { results := [.lit (.bool true)], args := [d1, d2, d3] }
  | _ => none }
def metricsWidthsRow : OpenClaim := { program := "ytjfcpbnipkkjbaa", sum := "f73352588a05adffd3125ed0cf5ee71ed86edfb83b77a3ab2dce980d4ae07318", func := "reglet/regletlaw04.MetricsWidths", spec := "metricsWidths", unfollowed := true, recurses := true, apart := false }
def MetricsWidthsSaid : Prop := metricsWidthsRow.holds Try.pinned (OpenSpec.ofChange metricsWidthsSpec)

/-- ITS FALSE NEIGHBOUR: 'it returns false'. Refute it at one input. -/
def metricsWidthsWrong : ChangeSpec := { name := "metricsWidths", fn := fun _ => fun
  | [d1, d2, d3] => { results := [.lit (.bool false)], args := [d1, d2, d3] }
  | _ => none }
def MetricsWidthsWrongFalsely : Prop := metricsWidthsRow.holds Try.pinned (OpenSpec.ofChange metricsWidthsWrong)

/-- 'regletlaw04.MetricsTexts': WHATEVER THE INPUT: true; the input reads as it did. -/
def metricsTextsSpec : ChangeSpec := { name := "metricsTexts", fn := fun _ => fun
  | [d1, d2, d3] => { results := [.lit (.bool true)], args := [d1, d2, d3] }
  | _ => none }
def metricsTextsRow : OpenClaim := { program := "ytjfcpbnipkkjbaa", sum := "f73352588a05adffd3125ed0cf5ee71ed86edfb83b77a3ab2dce980d4ae07318", func := "reglet/regletlaw04.MetricsTexts", spec := "metricsTexts", unfollowed := true, recurses := true, apart := false }
def MetricsTextsSaid : Prop := metricsTextsRow.holds Try.pinned (OpenSpec.ofChange metricsTextsSpec)

/-- ITS FALSE NEIGHBOUR: 'it returns false'. Refute it at one input. -/
def metricsTextsWrong : ChangeSpec := { name := "metricsTexts", fn := fun _ => fun
  | [d1, d2, d3] => { results := [.lit (.bool false)], args := [d1, d2, d3] }
  | _ => none }
def MetricsTextsWrongFalsely : Prop := metricsTextsRow.holds Try.pinned (OpenSpec.ofChange metricsTextsWrong)

/-- 'regletlaw04.MetricsTallest': WHATEVER THE INPUT: true; the input reads as it did. -/
def metricsTallestSpec : ChangeSpec := { name := "metricsTallest", fn := fun _ => fun
  | [d1, d2] => { results := [.lit (.bool true)], args := [d1, d2] }
  | _ => none }
def metricsTallestRow : OpenClaim := { program := "ytjfcpbnipkkjbaa", sum := "f73352588a05adffd3125ed0cf5ee71ed86edfb83b77a3ab2dce980d4ae07318", func := "reglet/regletlaw04.MetricsTallest", spec := "metricsTallest", unfollowed := true, recurses := true, apart := false }
def MetricsTallestSaid : Prop := metricsTallestRow.holds Try.pinned (OpenSpec.ofChange metricsTallestSpec)

/-- ITS FALSE NEIGHBOUR: 'it returns false'. Refute it at one input. -/
def metricsTallestWrong : ChangeSpec := { name := "metricsTallest", fn := fun _ => fun
  | [d1, d2] => { results := [.lit (.bool false)], args := [d1, d2] }
  | _ => none }
def MetricsTallestWrongFalsely : Prop := metricsTallestRow.holds Try.pinned (OpenSpec.ofChange metricsTallestWrong)

/-- 'regletlaw04.MetricsSame': WHATEVER THE INPUT: true; the input reads as it did. -/
def metricsSameSpec : ChangeSpec := { name := "metricsSame", fn := fun _ => fun
  | [d1, d2] => { results := [.lit (.bool true)], args := [d1, d2] }
  | _ => none }
def metricsSameRow : OpenClaim := { program := "ytjfcpbnipkkjbaa", sum := "f73352588a05adffd3125ed0cf5ee71ed86edfb83b77a3ab2dce980d4ae07318", func := "reglet/regletlaw04.MetricsSame", spec := "metricsSame", unfollowed := true, recurses := true, apart := false }
def MetricsSameSaid : Prop := metricsSameRow.holds Try.pinned (OpenSpec.ofChange metricsSameSpec)

/-- ITS FALSE NEIGHBOUR: 'it returns false'. Refute it at one input. -/
def metricsSameWrong : ChangeSpec := { name := "metricsSame", fn := fun _ => fun
  | [d1, d2] => { results := [.lit (.bool false)], args := [d1, d2] }
  | _ => none }
def MetricsSameWrongFalsely : Prop := metricsSameRow.holds Try.pinned (OpenSpec.ofChange metricsSameWrong)

/- THE SECOND FORM. 'bulk': how many values and letters a reading holds, each counted each time it is reached (what is shared counts as often as it is met; a slice's spare places count too). A statement '..UptoSaid' is the law's where the arguments, and the package variables that the reading takes, are together of bulk at most 1048576: NARROWER than '..Said'. Prove '..Said' where nothing that the law and all that it calls make is longer than what came in: it says more and counts as full. Else prove '..UptoSaid'. A law counts once. -/
mutual
def uptoBulk {H : Type} : DataW H → Nat
  | .lit (.string bytes) => bytes.length + 1
  | .lit _ => 1
  | .nil => 1
  | .ptr d => uptoBulk d + 1
  | .slice elems spare => uptoBulkAll elems + uptoBulkAll spare + 1
  | .agg parts => uptoBulkAll parts + 1
  | .iface _ d => uptoBulk d + 1
  | .map entries => uptoBulkEntries entries + 1
  | .held _ => 1
def uptoBulkAll {H : Type} : List (DataW H) → Nat
  | [] => 0
  | d :: r => uptoBulk d + uptoBulkAll r
def uptoBulkEntries {H : Type} : List (Lit × DataW H) → Nat
  | [] => 0
  | x :: r => uptoBulkEntry x + uptoBulkEntries r
def uptoBulkEntry {H : Type} : Lit × DataW H → Nat
  | (.string bytes, d) => bytes.length + uptoBulk d + 1
  | (_, d) => uptoBulk d + 1
 end
def uptoSmall : (H : Type) → List (DataW H) → Bool := fun _ ds => decide (uptoBulkAll ds ≤ 1048576)
def OpenSpec.upto (s : _root_.Go.ChangeSpec) : _root_.Go.OpenSpec := { _root_.Go.OpenSpec.ofChange s with cond := some uptoSmall }

/-- 'regletlaw04.MetricsTakes', WHERE WHAT IT READS IS OF BULK AT MOST 1048576: true; the input reads as it did. -/
def metricsTakesUptoRow : OpenClaim := { program := "ytjfcpbnipkkjbaa", sum := "f73352588a05adffd3125ed0cf5ee71ed86edfb83b77a3ab2dce980d4ae07318", func := "reglet/regletlaw04.MetricsTakes", spec := "metricsTakes", unfollowed := true, recurses := true, apart := false, narrowed := true }
def MetricsTakesUptoSaid : Prop := metricsTakesUptoRow.holds Try.pinned (OpenSpec.upto metricsTakesSpec)

/-- 'regletlaw04.MetricsTells', WHERE WHAT IT READS IS OF BULK AT MOST 1048576: true; the input reads as it did. -/
def metricsTellsUptoRow : OpenClaim := { program := "ytjfcpbnipkkjbaa", sum := "f73352588a05adffd3125ed0cf5ee71ed86edfb83b77a3ab2dce980d4ae07318", func := "reglet/regletlaw04.MetricsTells", spec := "metricsTells", unfollowed := true, recurses := true, apart := false, narrowed := true }
def MetricsTellsUptoSaid : Prop := metricsTellsUptoRow.holds Try.pinned (OpenSpec.upto metricsTellsSpec)

/-- 'regletlaw04.MetricsWidths', WHERE WHAT IT READS IS OF BULK AT MOST 1048576: true; the input reads as it did. -/
def metricsWidthsUptoRow : OpenClaim := { program := "ytjfcpbnipkkjbaa", sum := "f73352588a05adffd3125ed0cf5ee71ed86edfb83b77a3ab2dce980d4ae07318", func := "reglet/regletlaw04.MetricsWidths", spec := "metricsWidths", unfollowed := true, recurses := true, apart := false, narrowed := true }
def MetricsWidthsUptoSaid : Prop := metricsWidthsUptoRow.holds Try.pinned (OpenSpec.upto metricsWidthsSpec)

/-- 'regletlaw04.MetricsTexts', WHERE WHAT IT READS IS OF BULK AT MOST 1048576: true; the input reads as it did. -/
def metricsTextsUptoRow : OpenClaim := { program := "ytjfcpbnipkkjbaa", sum := "f73352588a05adffd3125ed0cf5ee71ed86edfb83b77a3ab2dce980d4ae07318", func := "reglet/regletlaw04.MetricsTexts", spec := "metricsTexts", unfollowed := true, recurses := true, apart := false, narrowed := true }
def MetricsTextsUptoSaid : Prop := metricsTextsUptoRow.holds Try.pinned (OpenSpec.upto metricsTextsSpec)

/-- 'regletlaw04.MetricsTallest', WHERE WHAT IT READS IS OF BULK AT MOST 1048576: true; the input reads as it did. -/
def metricsTallestUptoRow : OpenClaim := { program := "ytjfcpbnipkkjbaa", sum := "f73352588a05adffd3125ed0cf5ee71ed86edfb83b77a3ab2dce980d4ae07318", func := "reglet/regletlaw04.MetricsTallest", spec := "metricsTallest", unfollowed := true, recurses := true, apart := false, narrowed := true }
def MetricsTallestUptoSaid : Prop := metricsTallestUptoRow.holds Try.pinned (OpenSpec.upto metricsTallestSpec)

/-- 'regletlaw04.MetricsSame', WHERE WHAT IT READS IS OF BULK AT MOST 1048576: true; the input reads as it did. -/
def metricsSameUptoRow : OpenClaim := { program := "ytjfcpbnipkkjbaa", sum := "f73352588a05adffd3125ed0cf5ee71ed86edfb83b77a3ab2dce980d4ae07318", func := "reglet/regletlaw04.MetricsSame", spec := "metricsSame", unfollowed := true, recurses := true, apart := false, narrowed := true }
def MetricsSameUptoSaid : Prop := metricsSameUptoRow.holds Try.pinned (OpenSpec.upto metricsSameSpec)

end Rows
end Go.Proofs.Ytjfcpbnipkkjbaa
