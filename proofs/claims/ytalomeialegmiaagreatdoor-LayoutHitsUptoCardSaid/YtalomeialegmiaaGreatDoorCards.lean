/-
  DERIVED. GIVEN WITH THE SEED: THE CARDS: each row of YtalomeialegmiaaGreatDoorRows.lean that lists a variable, with what it lists TIED to the program's text (the seventh form; the later family's looks); each row that meets fmt, with fmt's text TOLD by the authors' own Lean function (tested against real Go, not proved from fmt's source: count such statements apart). THE CARD IS WHAT COUNTS. Prove the row's statement (the work); the ties are given (YtalomeialegmiaaGreatDoorTie.lean); close each card by the builder's one call (the guide's Derived/Test/ToyasCard.lean, 'card_holds'). Laid BY PROGRAM, IN A SANDBOX (cutbox-door.mjs). By AI agents, Wed Nov 11 2026. No macro, syntax, notation, axiom, sorry.
-/
import Derived.Test.YtalomeialegmiaaGreatDoorRows
import GoSem.ClaimSeven
namespace Go.Proofs.YtalomeialegmiaaGreatDoor
namespace Rows

/-- THE TIED CARD OF 'foliolaw13.LayoutLays'. -/
def layoutLaysCard : Claim7 := { stood := { row := layoutLaysRow, standIns := [], harness := (true, "6035921d5516c9e1c9955e3ab3b51021d88cfe34f798dbdd4efc3d8ea7d1ed15"), looks := false }, kinds := [], alts := [], laidByText := true, laidKinds := [.data, .data, .data, .data, .pinned], laidTests := true, laidLooks := .later }
def LayoutLaysCardSaid : Prop := Claim7.holds Tryz.pinned (.plain (OpenSpec.ofChange layoutLaysSpec)) layoutLaysCard

/-- THE TIED CARD OF 'foliolaw13.LayoutHits'. -/
def layoutHitsCard : Claim7 := { stood := { row := layoutHitsRow, standIns := [], harness := (true, "6035921d5516c9e1c9955e3ab3b51021d88cfe34f798dbdd4efc3d8ea7d1ed15"), looks := false }, kinds := [], alts := [], laidByText := true, laidKinds := [.data, .data, .data, .data, .pinned], laidTests := true, laidLooks := .later }
def LayoutHitsCardSaid : Prop := Claim7.holds Tryz.pinned (.plain (OpenSpec.ofChange layoutHitsSpec)) layoutHitsCard

/-- THE TIED CARD OF 'foliolaw13.LayoutFits'. -/
def layoutFitsCard : Claim7 := { stood := { row := layoutFitsRow, standIns := [], harness := (true, "6035921d5516c9e1c9955e3ab3b51021d88cfe34f798dbdd4efc3d8ea7d1ed15"), looks := false }, kinds := [], alts := [], laidByText := true, laidKinds := [.data, .data, .data, .data, .pinned], laidTests := true, laidLooks := .later }
def LayoutFitsCardSaid : Prop := Claim7.holds Tryz.pinned (.plain (OpenSpec.ofChange layoutFitsSpec)) layoutFitsCard

/-- THE TIED CARD OF 'foliolaw13.LayoutClicks'. -/
def layoutClicksCard : Claim7 := { stood := { row := layoutClicksRow, standIns := [], harness := (true, "6035921d5516c9e1c9955e3ab3b51021d88cfe34f798dbdd4efc3d8ea7d1ed15"), looks := false }, kinds := [], alts := [], laidByText := true, laidKinds := [.data, .data, .data, .data, .pinned], laidTests := true, laidLooks := .later }
def LayoutClicksCardSaid : Prop := Claim7.holds Tryz.pinned (.plain (OpenSpec.ofChange layoutClicksSpec)) layoutClicksCard

/-- THE TIED CARD OF 'foliolaw13.LayoutAll'. -/
def layoutAllCard : Claim7 := { stood := { row := layoutAllRow, standIns := [], harness := (true, "6035921d5516c9e1c9955e3ab3b51021d88cfe34f798dbdd4efc3d8ea7d1ed15"), looks := false }, kinds := [], alts := [], laidByText := true, laidKinds := [.data, .data, .data, .data, .pinned], laidTests := true, laidLooks := .later }
def LayoutAllCardSaid : Prop := Claim7.holds Tryz.pinned (.plain (OpenSpec.ofChange layoutAllSpec)) layoutAllCard

/-- THE TIED CARD OF 'foliolaw13.LayoutPrefix'. -/
def layoutPrefixCard : Claim7 := { stood := { row := layoutPrefixRow, standIns := [], harness := (true, "6035921d5516c9e1c9955e3ab3b51021d88cfe34f798dbdd4efc3d8ea7d1ed15"), looks := false }, kinds := [], alts := [], laidByText := true, laidKinds := [.data, .data, .data, .data, .pinned], laidTests := true, laidLooks := .later }
def LayoutPrefixCardSaid : Prop := Claim7.holds Tryz.pinned (.plain (OpenSpec.ofChange layoutPrefixSpec)) layoutPrefixCard

/-- THE SECOND FORM's CARD OF 'foliolaw13.LayoutLays'. -/
def layoutLaysUptoCard : Claim7 := { stood := { row := layoutLaysUptoRow, standIns := [], harness := (true, "6035921d5516c9e1c9955e3ab3b51021d88cfe34f798dbdd4efc3d8ea7d1ed15"), looks := false }, kinds := [], alts := [], laidByText := true, laidKinds := [.data, .data, .data, .data, .pinned], laidTests := true, laidLooks := .later }
def LayoutLaysUptoCardSaid : Prop := Claim7.holds Tryz.pinned (.plain (OpenSpec.upto layoutLaysSpec)) layoutLaysUptoCard

/-- THE SECOND FORM's CARD OF 'foliolaw13.LayoutHits'. -/
def layoutHitsUptoCard : Claim7 := { stood := { row := layoutHitsUptoRow, standIns := [], harness := (true, "6035921d5516c9e1c9955e3ab3b51021d88cfe34f798dbdd4efc3d8ea7d1ed15"), looks := false }, kinds := [], alts := [], laidByText := true, laidKinds := [.data, .data, .data, .data, .pinned], laidTests := true, laidLooks := .later }
def LayoutHitsUptoCardSaid : Prop := Claim7.holds Tryz.pinned (.plain (OpenSpec.upto layoutHitsSpec)) layoutHitsUptoCard

/-- THE SECOND FORM's CARD OF 'foliolaw13.LayoutFits'. -/
def layoutFitsUptoCard : Claim7 := { stood := { row := layoutFitsUptoRow, standIns := [], harness := (true, "6035921d5516c9e1c9955e3ab3b51021d88cfe34f798dbdd4efc3d8ea7d1ed15"), looks := false }, kinds := [], alts := [], laidByText := true, laidKinds := [.data, .data, .data, .data, .pinned], laidTests := true, laidLooks := .later }
def LayoutFitsUptoCardSaid : Prop := Claim7.holds Tryz.pinned (.plain (OpenSpec.upto layoutFitsSpec)) layoutFitsUptoCard

/-- THE SECOND FORM's CARD OF 'foliolaw13.LayoutClicks'. -/
def layoutClicksUptoCard : Claim7 := { stood := { row := layoutClicksUptoRow, standIns := [], harness := (true, "6035921d5516c9e1c9955e3ab3b51021d88cfe34f798dbdd4efc3d8ea7d1ed15"), looks := false }, kinds := [], alts := [], laidByText := true, laidKinds := [.data, .data, .data, .data, .pinned], laidTests := true, laidLooks := .later }
def LayoutClicksUptoCardSaid : Prop := Claim7.holds Tryz.pinned (.plain (OpenSpec.upto layoutClicksSpec)) layoutClicksUptoCard

/-- THE SECOND FORM's CARD OF 'foliolaw13.LayoutAll'. -/
def layoutAllUptoCard : Claim7 := { stood := { row := layoutAllUptoRow, standIns := [], harness := (true, "6035921d5516c9e1c9955e3ab3b51021d88cfe34f798dbdd4efc3d8ea7d1ed15"), looks := false }, kinds := [], alts := [], laidByText := true, laidKinds := [.data, .data, .data, .data, .pinned], laidTests := true, laidLooks := .later }
def LayoutAllUptoCardSaid : Prop := Claim7.holds Tryz.pinned (.plain (OpenSpec.upto layoutAllSpec)) layoutAllUptoCard

/-- THE SECOND FORM's CARD OF 'foliolaw13.LayoutPrefix'. -/
def layoutPrefixUptoCard : Claim7 := { stood := { row := layoutPrefixUptoRow, standIns := [], harness := (true, "6035921d5516c9e1c9955e3ab3b51021d88cfe34f798dbdd4efc3d8ea7d1ed15"), looks := false }, kinds := [], alts := [], laidByText := true, laidKinds := [.data, .data, .data, .data, .pinned], laidTests := true, laidLooks := .later }
def LayoutPrefixUptoCardSaid : Prop := Claim7.holds Tryz.pinned (.plain (OpenSpec.upto layoutPrefixSpec)) layoutPrefixUptoCard
end Rows
end Go.Proofs.YtalomeialegmiaaGreatDoor
