/-
  DERIVED. GIVEN WITH THE SEED: THE CARDS: each row of YtjohhahfpgfjdaaGreatDoorRows.lean that lists a variable, with what it lists TIED to the program's text (the seventh form; the later family's looks); each row that meets fmt, with fmt's text TOLD by the authors' own Lean function (tested against real Go, not proved from fmt's source: count such statements apart). THE CARD IS WHAT COUNTS. Prove the row's statement (the work); the ties are given (YtjohhahfpgfjdaaGreatDoorTie.lean); close each card by the builder's one call (the guide's Derived/Test/ToyasCard.lean, 'card_holds'). Laid BY PROGRAM, IN A SANDBOX (cutbox-door.mjs). By AI agents, Wed Nov 11 2026. No macro, syntax, notation, axiom, sorry.
-/
import Derived.Test.YtjohhahfpgfjdaaGreatDoorRows
import GoSem.ClaimSeven
namespace Go.Proofs.YtjohhahfpgfjdaaGreatDoor
namespace Rows

/-- THE TIED CARD OF 'foliolaw13.LayoutFits'. -/
def layoutFitsCard : Claim7 := { stood := { row := layoutFitsRow, standIns := [], harness := (true, "2b77f96e90eeb2a070b8919d864eb7447843780f83d9bb1bb44d2972051beb86"), looks := false }, kinds := [], alts := [], laidByText := true, laidKinds := [.data, .data, .data, .data, .pinned], laidTests := true, laidLooks := .later }
def LayoutFitsCardSaid : Prop := Claim7.holds Tryz.pinned (.plain (OpenSpec.ofChange layoutFitsSpec)) layoutFitsCard

/-- THE TIED CARD OF 'foliolaw13.LayoutClicks'. -/
def layoutClicksCard : Claim7 := { stood := { row := layoutClicksRow, standIns := [], harness := (true, "2b77f96e90eeb2a070b8919d864eb7447843780f83d9bb1bb44d2972051beb86"), looks := false }, kinds := [], alts := [], laidByText := true, laidKinds := [.data, .data, .data, .data, .pinned], laidTests := true, laidLooks := .later }
def LayoutClicksCardSaid : Prop := Claim7.holds Tryz.pinned (.plain (OpenSpec.ofChange layoutClicksSpec)) layoutClicksCard

/-- THE TIED CARD OF 'foliolaw13.LayoutAll'. -/
def layoutAllCard : Claim7 := { stood := { row := layoutAllRow, standIns := [], harness := (true, "2b77f96e90eeb2a070b8919d864eb7447843780f83d9bb1bb44d2972051beb86"), looks := false }, kinds := [], alts := [], laidByText := true, laidKinds := [.data, .data, .data, .data, .pinned], laidTests := true, laidLooks := .later }
def LayoutAllCardSaid : Prop := Claim7.holds Tryz.pinned (.plain (OpenSpec.ofChange layoutAllSpec)) layoutAllCard

/-- THE TIED CARD OF 'foliolaw13.LayoutPrefix'. -/
def layoutPrefixCard : Claim7 := { stood := { row := layoutPrefixRow, standIns := [], harness := (true, "2b77f96e90eeb2a070b8919d864eb7447843780f83d9bb1bb44d2972051beb86"), looks := false }, kinds := [], alts := [], laidByText := true, laidKinds := [.data, .data, .data, .data, .pinned], laidTests := true, laidLooks := .later }
def LayoutPrefixCardSaid : Prop := Claim7.holds Tryz.pinned (.plain (OpenSpec.ofChange layoutPrefixSpec)) layoutPrefixCard

/-- THE TIED CARD OF 'foliolaw13.LayoutColors'. -/
def layoutColorsCard : Claim7 := { stood := { row := layoutColorsRow, standIns := [], harness := (true, "2b77f96e90eeb2a070b8919d864eb7447843780f83d9bb1bb44d2972051beb86"), looks := false }, kinds := [], alts := [], laidByText := true, laidKinds := [.data, .data, .data, .data, .pinned], laidTests := true, laidLooks := .later }
def LayoutColorsCardSaid : Prop := Claim7.holds Tryz.pinned (.plain (OpenSpec.ofChange layoutColorsSpec)) layoutColorsCard

/-- THE TIED CARD OF 'foliolaw13.LayoutWider'. -/
def layoutWiderCard : Claim7 := { stood := { row := layoutWiderRow, standIns := [], harness := (true, "2b77f96e90eeb2a070b8919d864eb7447843780f83d9bb1bb44d2972051beb86"), looks := false }, kinds := [], alts := [], laidByText := true, laidKinds := [.data, .data, .data, .data, .pinned], laidTests := true, laidLooks := .later }
def LayoutWiderCardSaid : Prop := Claim7.holds Tryz.pinned (.plain (OpenSpec.ofChange layoutWiderSpec)) layoutWiderCard

/-- THE SECOND FORM's CARD OF 'foliolaw13.LayoutFits'. -/
def layoutFitsUptoCard : Claim7 := { stood := { row := layoutFitsUptoRow, standIns := [], harness := (true, "2b77f96e90eeb2a070b8919d864eb7447843780f83d9bb1bb44d2972051beb86"), looks := false }, kinds := [], alts := [], laidByText := true, laidKinds := [.data, .data, .data, .data, .pinned], laidTests := true, laidLooks := .later }
def LayoutFitsUptoCardSaid : Prop := Claim7.holds Tryz.pinned (.plain (OpenSpec.upto layoutFitsSpec)) layoutFitsUptoCard

/-- THE SECOND FORM's CARD OF 'foliolaw13.LayoutClicks'. -/
def layoutClicksUptoCard : Claim7 := { stood := { row := layoutClicksUptoRow, standIns := [], harness := (true, "2b77f96e90eeb2a070b8919d864eb7447843780f83d9bb1bb44d2972051beb86"), looks := false }, kinds := [], alts := [], laidByText := true, laidKinds := [.data, .data, .data, .data, .pinned], laidTests := true, laidLooks := .later }
def LayoutClicksUptoCardSaid : Prop := Claim7.holds Tryz.pinned (.plain (OpenSpec.upto layoutClicksSpec)) layoutClicksUptoCard

/-- THE SECOND FORM's CARD OF 'foliolaw13.LayoutAll'. -/
def layoutAllUptoCard : Claim7 := { stood := { row := layoutAllUptoRow, standIns := [], harness := (true, "2b77f96e90eeb2a070b8919d864eb7447843780f83d9bb1bb44d2972051beb86"), looks := false }, kinds := [], alts := [], laidByText := true, laidKinds := [.data, .data, .data, .data, .pinned], laidTests := true, laidLooks := .later }
def LayoutAllUptoCardSaid : Prop := Claim7.holds Tryz.pinned (.plain (OpenSpec.upto layoutAllSpec)) layoutAllUptoCard

/-- THE SECOND FORM's CARD OF 'foliolaw13.LayoutPrefix'. -/
def layoutPrefixUptoCard : Claim7 := { stood := { row := layoutPrefixUptoRow, standIns := [], harness := (true, "2b77f96e90eeb2a070b8919d864eb7447843780f83d9bb1bb44d2972051beb86"), looks := false }, kinds := [], alts := [], laidByText := true, laidKinds := [.data, .data, .data, .data, .pinned], laidTests := true, laidLooks := .later }
def LayoutPrefixUptoCardSaid : Prop := Claim7.holds Tryz.pinned (.plain (OpenSpec.upto layoutPrefixSpec)) layoutPrefixUptoCard

/-- THE SECOND FORM's CARD OF 'foliolaw13.LayoutColors'. -/
def layoutColorsUptoCard : Claim7 := { stood := { row := layoutColorsUptoRow, standIns := [], harness := (true, "2b77f96e90eeb2a070b8919d864eb7447843780f83d9bb1bb44d2972051beb86"), looks := false }, kinds := [], alts := [], laidByText := true, laidKinds := [.data, .data, .data, .data, .pinned], laidTests := true, laidLooks := .later }
def LayoutColorsUptoCardSaid : Prop := Claim7.holds Tryz.pinned (.plain (OpenSpec.upto layoutColorsSpec)) layoutColorsUptoCard

/-- THE SECOND FORM's CARD OF 'foliolaw13.LayoutWider'. -/
def layoutWiderUptoCard : Claim7 := { stood := { row := layoutWiderUptoRow, standIns := [], harness := (true, "2b77f96e90eeb2a070b8919d864eb7447843780f83d9bb1bb44d2972051beb86"), looks := false }, kinds := [], alts := [], laidByText := true, laidKinds := [.data, .data, .data, .data, .pinned], laidTests := true, laidLooks := .later }
def LayoutWiderUptoCardSaid : Prop := Claim7.holds Tryz.pinned (.plain (OpenSpec.upto layoutWiderSpec)) layoutWiderUptoCard
end Rows
end Go.Proofs.YtjohhahfpgfjdaaGreatDoor
