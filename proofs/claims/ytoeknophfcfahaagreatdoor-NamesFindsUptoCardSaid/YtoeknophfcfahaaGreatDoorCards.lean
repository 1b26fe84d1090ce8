/-
  DERIVED. GIVEN WITH THE SEED: THE CARDS: each row of YtoeknophfcfahaaGreatDoorRows.lean that lists a variable, with what it lists TIED to the program's text (the seventh form; the later family's looks); each row that meets fmt, with fmt's text TOLD by the authors' own Lean function (tested against real Go, not proved from fmt's source: count such statements apart). THE CARD IS WHAT COUNTS. Prove the row's statement (the work); the ties are given (YtoeknophfcfahaaGreatDoorTie.lean); close each card by the builder's one call (the guide's Derived/Test/ToyasCard.lean, 'card_holds'). Laid BY PROGRAM, IN A SANDBOX (cutbox-door.mjs). By AI agents, Wed Nov 11 2026. No macro, syntax, notation, axiom, sorry.
-/
import Derived.Test.YtoeknophfcfahaaGreatDoorRows
import GoSem.ClaimSeven
namespace Go.Proofs.YtoeknophfcfahaaGreatDoor
namespace Rows

/-- THE TIED CARD OF 'foliolaw07.NamesFinds'. -/
def namesFindsCard : Claim7 := { stood := { row := namesFindsRow, standIns := [], harness := (true, "b072eb1376a5ad38b623f48533c424a1394c7f33f0c5b73e5d6b6fb8ac31dcd4"), looks := true }, kinds := [], alts := [], laidByText := true, laidKinds := [.data, .pinned], laidTests := true, laidLooks := .later }
def NamesFindsCardSaid : Prop := Claim7.holds Tryz.pinned (.plain (OpenSpec.ofChange namesFindsSpec)) namesFindsCard

/-- THE TIED CARD OF 'foliolaw08.LinkRefs'. -/
def linkRefsCard : Claim7 := { stood := { row := linkRefsRow, standIns := [], harness := (true, "b072eb1376a5ad38b623f48533c424a1394c7f33f0c5b73e5d6b6fb8ac31dcd4"), looks := true }, kinds := [], alts := [], laidByText := true, laidKinds := [.data, .pinned], laidTests := true, laidLooks := .later }
def LinkRefsCardSaid : Prop := Claim7.holds Tryz.pinned (.plain (OpenSpec.ofChange linkRefsSpec)) linkRefsCard

/-- THE SECOND FORM's CARD OF 'foliolaw07.NamesFinds'. -/
def namesFindsUptoCard : Claim7 := { stood := { row := namesFindsUptoRow, standIns := [], harness := (true, "b072eb1376a5ad38b623f48533c424a1394c7f33f0c5b73e5d6b6fb8ac31dcd4"), looks := true }, kinds := [], alts := [], laidByText := true, laidKinds := [.data, .pinned], laidTests := true, laidLooks := .later }
def NamesFindsUptoCardSaid : Prop := Claim7.holds Tryz.pinned (.plain (OpenSpec.upto namesFindsSpec)) namesFindsUptoCard

/-- THE SECOND FORM's CARD OF 'foliolaw08.LinkRefs'. -/
def linkRefsUptoCard : Claim7 := { stood := { row := linkRefsUptoRow, standIns := [], harness := (true, "b072eb1376a5ad38b623f48533c424a1394c7f33f0c5b73e5d6b6fb8ac31dcd4"), looks := true }, kinds := [], alts := [], laidByText := true, laidKinds := [.data, .pinned], laidTests := true, laidLooks := .later }
def LinkRefsUptoCardSaid : Prop := Claim7.holds Tryz.pinned (.plain (OpenSpec.upto linkRefsSpec)) linkRefsUptoCard
end Rows
end Go.Proofs.YtoeknophfcfahaaGreatDoor
