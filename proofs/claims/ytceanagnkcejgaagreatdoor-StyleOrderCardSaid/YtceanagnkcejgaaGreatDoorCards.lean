/-
  DERIVED. GIVEN WITH THE SEED: THE CARDS: each row of YtceanagnkcejgaaGreatDoorRows.lean that lists a variable, with what it lists TIED to the program's text (the seventh form; the later family's looks); each row that meets fmt, with fmt's text TOLD by the authors' own Lean function (tested against real Go, not proved from fmt's source: count such statements apart). THE CARD IS WHAT COUNTS. Prove the row's statement (the work); the ties are given (YtceanagnkcejgaaGreatDoorTie.lean); close each card by the builder's one call (the guide's Derived/Test/ToyasCard.lean, 'card_holds'). Laid BY PROGRAM, IN A SANDBOX (cutbox-door.mjs). By AI agents, Wed Nov 11 2026. No macro, syntax, notation, axiom, sorry.
-/
import Derived.Test.YtceanagnkcejgaaGreatDoorRows
import GoSem.ClaimSeven
namespace Go.Proofs.YtceanagnkcejgaaGreatDoor
namespace Rows

/-- THE TIED CARD OF 'foliolaw06.StyleSheets'. -/
def styleSheetsCard : Claim7 := { stood := { row := styleSheetsRow, standIns := [], harness := (true, "c35a51054170547c44d80db7300e522893670fa0c88b4c21c894c8a4ca00791c"), looks := true }, kinds := [], alts := [], laidByText := true, laidKinds := [.data, .data, .data, .data, .sentinel, .sentinel, .data, .pinned], laidTests := true, laidLooks := .later }
def StyleSheetsCardSaid : Prop := Claim7.holds Tryz.pinned (.plain (OpenSpec.ofChange styleSheetsSpec)) styleSheetsCard

/-- THE TIED CARD OF 'foliolaw06.StyleNests'. -/
def styleNestsCard : Claim7 := { stood := { row := styleNestsRow, standIns := [], harness := (true, "c35a51054170547c44d80db7300e522893670fa0c88b4c21c894c8a4ca00791c"), looks := true }, kinds := [], alts := [], laidByText := true, laidKinds := [.data, .data, .data, .data, .sentinel, .sentinel, .data, .pinned], laidTests := true, laidLooks := .later }
def StyleNestsCardSaid : Prop := Claim7.holds Tryz.pinned (.plain (OpenSpec.ofChange styleNestsSpec)) styleNestsCard

/-- THE TIED CARD OF 'foliolaw06.StyleTexts'. -/
def styleTextsCard : Claim7 := { stood := { row := styleTextsRow, standIns := [], harness := (true, "c35a51054170547c44d80db7300e522893670fa0c88b4c21c894c8a4ca00791c"), looks := true }, kinds := [], alts := [], laidByText := true, laidKinds := [.data, .data, .data, .data, .sentinel, .sentinel, .data, .pinned], laidTests := true, laidLooks := .later }
def StyleTextsCardSaid : Prop := Claim7.holds Tryz.pinned (.plain (OpenSpec.ofChange styleTextsSpec)) styleTextsCard

/-- THE TIED CARD OF 'foliolaw06.StyleSplits'. -/
def styleSplitsCard : Claim7 := { stood := { row := styleSplitsRow, standIns := [], harness := (true, "c35a51054170547c44d80db7300e522893670fa0c88b4c21c894c8a4ca00791c"), looks := true }, kinds := [], alts := [], laidByText := true, laidKinds := [.data, .data, .data, .data, .sentinel, .sentinel, .data, .pinned], laidTests := true, laidLooks := .later }
def StyleSplitsCardSaid : Prop := Claim7.holds Tryz.pinned (.plain (OpenSpec.ofChange styleSplitsSpec)) styleSplitsCard

/-- THE TIED CARD OF 'foliolaw06.StyleOrder'. -/
def styleOrderCard : Claim7 := { stood := { row := styleOrderRow, standIns := [], harness := (true, "c35a51054170547c44d80db7300e522893670fa0c88b4c21c894c8a4ca00791c"), looks := true }, kinds := [], alts := [], laidByText := true, laidKinds := [.data, .data, .data, .data, .sentinel, .sentinel, .data, .pinned], laidTests := true, laidLooks := .later }
def StyleOrderCardSaid : Prop := Claim7.holds Tryz.pinned (.plain (OpenSpec.ofChange styleOrderSpec)) styleOrderCard

/-- THE SECOND FORM's CARD OF 'foliolaw06.StyleSheets'. -/
def styleSheetsUptoCard : Claim7 := { stood := { row := styleSheetsUptoRow, standIns := [], harness := (true, "c35a51054170547c44d80db7300e522893670fa0c88b4c21c894c8a4ca00791c"), looks := true }, kinds := [], alts := [], laidByText := true, laidKinds := [.data, .data, .data, .data, .sentinel, .sentinel, .data, .pinned], laidTests := true, laidLooks := .later }
def StyleSheetsUptoCardSaid : Prop := Claim7.holds Tryz.pinned (.plain (OpenSpec.upto styleSheetsSpec)) styleSheetsUptoCard

/-- THE SECOND FORM's CARD OF 'foliolaw06.StyleNests'. -/
def styleNestsUptoCard : Claim7 := { stood := { row := styleNestsUptoRow, standIns := [], harness := (true, "c35a51054170547c44d80db7300e522893670fa0c88b4c21c894c8a4ca00791c"), looks := true }, kinds := [], alts := [], laidByText := true, laidKinds := [.data, .data, .data, .data, .sentinel, .sentinel, .data, .pinned], laidTests := true, laidLooks := .later }
def StyleNestsUptoCardSaid : Prop := Claim7.holds Tryz.pinned (.plain (OpenSpec.upto styleNestsSpec)) styleNestsUptoCard

/-- THE SECOND FORM's CARD OF 'foliolaw06.StyleTexts'. -/
def styleTextsUptoCard : Claim7 := { stood := { row := styleTextsUptoRow, standIns := [], harness := (true, "c35a51054170547c44d80db7300e522893670fa0c88b4c21c894c8a4ca00791c"), looks := true }, kinds := [], alts := [], laidByText := true, laidKinds := [.data, .data, .data, .data, .sentinel, .sentinel, .data, .pinned], laidTests := true, laidLooks := .later }
def StyleTextsUptoCardSaid : Prop := Claim7.holds Tryz.pinned (.plain (OpenSpec.upto styleTextsSpec)) styleTextsUptoCard

/-- THE SECOND FORM's CARD OF 'foliolaw06.StyleSplits'. -/
def styleSplitsUptoCard : Claim7 := { stood := { row := styleSplitsUptoRow, standIns := [], harness := (true, "c35a51054170547c44d80db7300e522893670fa0c88b4c21c894c8a4ca00791c"), looks := true }, kinds := [], alts := [], laidByText := true, laidKinds := [.data, .data, .data, .data, .sentinel, .sentinel, .data, .pinned], laidTests := true, laidLooks := .later }
def StyleSplitsUptoCardSaid : Prop := Claim7.holds Tryz.pinned (.plain (OpenSpec.upto styleSplitsSpec)) styleSplitsUptoCard

/-- THE SECOND FORM's CARD OF 'foliolaw06.StyleOrder'. -/
def styleOrderUptoCard : Claim7 := { stood := { row := styleOrderUptoRow, standIns := [], harness := (true, "c35a51054170547c44d80db7300e522893670fa0c88b4c21c894c8a4ca00791c"), looks := true }, kinds := [], alts := [], laidByText := true, laidKinds := [.data, .data, .data, .data, .sentinel, .sentinel, .data, .pinned], laidTests := true, laidLooks := .later }
def StyleOrderUptoCardSaid : Prop := Claim7.holds Tryz.pinned (.plain (OpenSpec.upto styleOrderSpec)) styleOrderUptoCard
end Rows
end Go.Proofs.YtceanagnkcejgaaGreatDoor
