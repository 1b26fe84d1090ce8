/-
  DERIVED. GIVEN WITH THE SEED: THE CARDS: each row of YtceanagnkcejgaaDoorRows.lean that lists a variable, with what it lists TIED to the program's text (the seventh form; the later family's looks); each row that meets fmt, with fmt's text TOLD by the authors' own Lean function (tested against real Go, not proved from fmt's source: count such statements apart). THE CARD IS WHAT COUNTS. Prove the row's statement (the work); the ties are given (YtceanagnkcejgaaDoorTie.lean); close each card by the builder's one call (the guide's Derived/Test/ToyasCard.lean, 'card_holds'). Laid BY PROGRAM, IN A SANDBOX (cutbox-door.mjs). By AI agents, Wed Nov 11 2026. No macro, syntax, notation, axiom, sorry.
-/
import Derived.Test.YtceanagnkcejgaaDoorRows
import GoSem.ClaimSeven
namespace Go.Proofs.YtceanagnkcejgaaDoor
namespace Rows

/-- THE TIED CARD OF 'foliolaw06.StyleChanges'. -/
def styleChangesCard : Claim7 := { stood := { row := styleChangesRow, standIns := [], harness := (true, "d096a1053afda0a674a091d4c055546f0c7c8f37e04a1845e28b47a6edb777f6"), looks := true }, kinds := [], alts := [], laidByText := true, laidKinds := [.data, .data, .data, .data, .sentinel, .sentinel, .data, .pinned], laidTests := true, laidLooks := .later }
def StyleChangesCardSaid : Prop := Claim7.holds Tryd.pinned (.plain (OpenSpec.ofChange styleChangesSpec)) styleChangesCard

/-- THE TIED CARD OF 'foliolaw06.StyleAssociates'. -/
def styleAssociatesCard : Claim7 := { stood := { row := styleAssociatesRow, standIns := [], harness := (true, "d096a1053afda0a674a091d4c055546f0c7c8f37e04a1845e28b47a6edb777f6"), looks := true }, kinds := [], alts := [], laidByText := true, laidKinds := [.data, .data, .data, .data, .sentinel, .sentinel, .data, .pinned], laidTests := true, laidLooks := .later }
def StyleAssociatesCardSaid : Prop := Claim7.holds Tryd.pinned (.plain (OpenSpec.ofChange styleAssociatesSpec)) styleAssociatesCard

/-- THE TIED CARD OF 'foliolaw06.StyleBack'. -/
def styleBackCard : Claim7 := { stood := { row := styleBackRow, standIns := [], harness := (true, "d096a1053afda0a674a091d4c055546f0c7c8f37e04a1845e28b47a6edb777f6"), looks := true }, kinds := [], alts := [], laidByText := true, laidKinds := [.data, .data, .data, .data, .sentinel, .sentinel, .data, .pinned], laidTests := true, laidLooks := .later }
def StyleBackCardSaid : Prop := Claim7.holds Tryd.pinned (.plain (OpenSpec.ofChange styleBackSpec)) styleBackCard

/-- THE SECOND FORM's CARD OF 'foliolaw06.StyleChanges'. -/
def styleChangesUptoCard : Claim7 := { stood := { row := styleChangesUptoRow, standIns := [], harness := (true, "d096a1053afda0a674a091d4c055546f0c7c8f37e04a1845e28b47a6edb777f6"), looks := true }, kinds := [], alts := [], laidByText := true, laidKinds := [.data, .data, .data, .data, .sentinel, .sentinel, .data, .pinned], laidTests := true, laidLooks := .later }
def StyleChangesUptoCardSaid : Prop := Claim7.holds Tryd.pinned (.plain (OpenSpec.upto styleChangesSpec)) styleChangesUptoCard

/-- THE SECOND FORM's CARD OF 'foliolaw06.StyleAssociates'. -/
def styleAssociatesUptoCard : Claim7 := { stood := { row := styleAssociatesUptoRow, standIns := [], harness := (true, "d096a1053afda0a674a091d4c055546f0c7c8f37e04a1845e28b47a6edb777f6"), looks := true }, kinds := [], alts := [], laidByText := true, laidKinds := [.data, .data, .data, .data, .sentinel, .sentinel, .data, .pinned], laidTests := true, laidLooks := .later }
def StyleAssociatesUptoCardSaid : Prop := Claim7.holds Tryd.pinned (.plain (OpenSpec.upto styleAssociatesSpec)) styleAssociatesUptoCard

/-- THE SECOND FORM's CARD OF 'foliolaw06.StyleBack'. -/
def styleBackUptoCard : Claim7 := { stood := { row := styleBackUptoRow, standIns := [], harness := (true, "d096a1053afda0a674a091d4c055546f0c7c8f37e04a1845e28b47a6edb777f6"), looks := true }, kinds := [], alts := [], laidByText := true, laidKinds := [.data, .data, .data, .data, .sentinel, .sentinel, .data, .pinned], laidTests := true, laidLooks := .later }
def StyleBackUptoCardSaid : Prop := Claim7.holds Tryd.pinned (.plain (OpenSpec.upto styleBackSpec)) styleBackUptoCard
end Rows
end Go.Proofs.YtceanagnkcejgaaDoor
