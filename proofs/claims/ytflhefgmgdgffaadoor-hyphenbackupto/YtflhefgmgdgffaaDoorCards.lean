/-
  DERIVED. GIVEN WITH THE SEED: THE CARDS: each row of YtflhefgmgdgffaaDoorRows.lean that lists a variable, with what it lists TIED to the program's text (the seventh form; the later family's looks); each row that meets fmt, with fmt's text TOLD by the authors' own Lean function (tested against real Go, not proved from fmt's source: count such statements apart). THE CARD IS WHAT COUNTS. Prove the row's statement (the work); the ties are given (YtflhefgmgdgffaaDoorTie.lean); close each card by the builder's one call (the guide's Derived/Test/ToyasCard.lean, 'card_holds'). Laid BY PROGRAM, IN A SANDBOX (cutbox-door.mjs). By AI agents, Wed Nov 11 2026. No macro, syntax, notation, axiom, sorry.
-/
import Derived.Test.YtflhefgmgdgffaaDoorRows
import GoSem.ClaimSeven
namespace Go.Proofs.YtflhefgmgdgffaaDoor
namespace Rows

/-- THE TIED CARD OF 'regletlaw17.HyphenBack'. -/
def hyphenBackCard : Claim7 := { stood := { row := hyphenBackRow, standIns := [], harness := (true, "a5c5b318ed11f2ac2edb0c35218971c8b3094d05ff8314edef8eebca7c4316d9"), looks := false }, kinds := [], alts := [], laidByText := true, laidKinds := [.data, .pinned], laidTests := true, laidLooks := .later }
def HyphenBackCardSaid : Prop := Claim7.holds Tryd.pinned (.plain (OpenSpec.ofChange hyphenBackSpec)) hyphenBackCard

/-- THE SECOND FORM's CARD OF 'regletlaw17.HyphenBack'. -/
def hyphenBackUptoCard : Claim7 := { stood := { row := hyphenBackUptoRow, standIns := [], harness := (true, "a5c5b318ed11f2ac2edb0c35218971c8b3094d05ff8314edef8eebca7c4316d9"), looks := false }, kinds := [], alts := [], laidByText := true, laidKinds := [.data, .pinned], laidTests := true, laidLooks := .later }
def HyphenBackUptoCardSaid : Prop := Claim7.holds Tryd.pinned (.plain (OpenSpec.upto hyphenBackSpec)) hyphenBackUptoCard
end Rows
end Go.Proofs.YtflhefgmgdgffaaDoor
