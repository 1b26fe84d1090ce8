/-
  DERIVED. GIVEN WITH THE SEED: THE CARDS: each row of YtmceiehnfmgioaaGreatDoorRows.lean that lists a variable, with what it lists TIED to the program's text (the seventh form; the later family's looks); each row that meets fmt, with fmt's text TOLD by the authors' own Lean function (tested against real Go, not proved from fmt's source: count such statements apart). THE CARD IS WHAT COUNTS. Prove the row's statement (the work); the ties are given (YtmceiehnfmgioaaGreatDoorTie.lean); close each card by the builder's one call (the guide's Derived/Test/ToyasCard.lean, 'card_holds'). Laid BY PROGRAM, IN A SANDBOX (cutbox-door.mjs). By AI agents, Wed Nov 11 2026. No macro, syntax, notation, axiom, sorry.
-/
import Derived.Test.YtmceiehnfmgioaaGreatDoorRows
import GoSem.ClaimSeven
namespace Go.Proofs.YtmceiehnfmgioaaGreatDoor
namespace Rows

/-- THE TIED CARD OF 'foliolaw04.MarkLexes'. -/
def markLexesCard : Claim7 := { stood := { row := markLexesRow, standIns := [], harness := (true, "15f3e6ea5f84d2613ee822a9f11f4a7664296857ea2debaf80d044492f5ff38d"), looks := true }, kinds := [], alts := [], laidByText := true, laidKinds := [.data, .handle, .pinned], laidTests := true, laidLooks := .later }
def MarkLexesCardSaid : Prop := Claim7.holds Tryz.pinned (.plain (OpenSpec.ofChange markLexesSpec)) markLexesCard

/-- THE TIED CARD OF 'foliolaw04.MarkBack'. -/
def markBackCard : Claim7 := { stood := { row := markBackRow, standIns := [], harness := (true, "15f3e6ea5f84d2613ee822a9f11f4a7664296857ea2debaf80d044492f5ff38d"), looks := true }, kinds := [], alts := [], laidByText := true, laidKinds := [.data, .handle, .pinned], laidTests := true, laidLooks := .later }
def MarkBackCardSaid : Prop := Claim7.holds Tryz.pinned (.plain (OpenSpec.ofChange markBackSpec)) markBackCard

/-- THE TIED CARD OF 'foliolaw04.MarkParts'. -/
def markPartsCard : Claim7 := { stood := { row := markPartsRow, standIns := [], harness := (true, "15f3e6ea5f84d2613ee822a9f11f4a7664296857ea2debaf80d044492f5ff38d"), looks := true }, kinds := [], alts := [], laidByText := true, laidKinds := [.data, .handle, .pinned], laidTests := true, laidLooks := .later }
def MarkPartsCardSaid : Prop := Claim7.holds Tryz.pinned (.plain (OpenSpec.ofChange markPartsSpec)) markPartsCard

/-- THE TIED CARD OF 'foliolaw04.MarkComments'. -/
def markCommentsCard : Claim7 := { stood := { row := markCommentsRow, standIns := [], harness := (true, "15f3e6ea5f84d2613ee822a9f11f4a7664296857ea2debaf80d044492f5ff38d"), looks := true }, kinds := [], alts := [], laidByText := true, laidKinds := [.data, .handle, .pinned], laidTests := true, laidLooks := .later }
def MarkCommentsCardSaid : Prop := Claim7.holds Tryz.pinned (.plain (OpenSpec.ofChange markCommentsSpec)) markCommentsCard

/-- THE TIED CARD OF 'foliolaw05.SrcParses'. -/
def srcParsesCard : Claim7 := { stood := { row := srcParsesRow, standIns := [], harness := (true, "15f3e6ea5f84d2613ee822a9f11f4a7664296857ea2debaf80d044492f5ff38d"), looks := true }, kinds := [], alts := [], laidByText := true, laidKinds := [.data, .data, .data, .data, .handle, .sentinel, .sentinel, .pinned], laidTests := true, laidLooks := .later }
def SrcParsesCardSaid : Prop := Claim7.holds Tryz.pinned (.plain (OpenSpec.ofChange srcParsesSpec)) srcParsesCard

/-- THE TIED CARD OF 'foliolaw05.SrcWrites'. -/
def srcWritesCard : Claim7 := { stood := { row := srcWritesRow, standIns := [], harness := (true, "15f3e6ea5f84d2613ee822a9f11f4a7664296857ea2debaf80d044492f5ff38d"), looks := true }, kinds := [], alts := [], laidByText := true, laidKinds := [.data, .data, .data, .data, .handle, .sentinel, .sentinel, .pinned], laidTests := true, laidLooks := .later }
def SrcWritesCardSaid : Prop := Claim7.holds Tryz.pinned (.plain (OpenSpec.ofChange srcWritesSpec)) srcWritesCard

/-- THE TIED CARD OF 'foliolaw05.SrcBack'. -/
def srcBackCard : Claim7 := { stood := { row := srcBackRow, standIns := [], harness := (true, "15f3e6ea5f84d2613ee822a9f11f4a7664296857ea2debaf80d044492f5ff38d"), looks := true }, kinds := [], alts := [], laidByText := true, laidKinds := [.data, .data, .data, .data, .handle, .sentinel, .sentinel, .pinned], laidTests := true, laidLooks := .later }
def SrcBackCardSaid : Prop := Claim7.holds Tryz.pinned (.plain (OpenSpec.ofChange srcBackSpec)) srcBackCard

/-- THE TIED CARD OF 'foliolaw05.SrcBalanced'. -/
def srcBalancedCard : Claim7 := { stood := { row := srcBalancedRow, standIns := [], harness := (true, "15f3e6ea5f84d2613ee822a9f11f4a7664296857ea2debaf80d044492f5ff38d"), looks := true }, kinds := [], alts := [], laidByText := true, laidKinds := [.data, .data, .data, .data, .handle, .sentinel, .sentinel, .pinned], laidTests := true, laidLooks := .later }
def SrcBalancedCardSaid : Prop := Claim7.holds Tryz.pinned (.plain (OpenSpec.ofChange srcBalancedSpec)) srcBalancedCard

/-- THE TIED CARD OF 'foliolaw05.SrcComments'. -/
def srcCommentsCard : Claim7 := { stood := { row := srcCommentsRow, standIns := [], harness := (true, "15f3e6ea5f84d2613ee822a9f11f4a7664296857ea2debaf80d044492f5ff38d"), looks := true }, kinds := [], alts := [], laidByText := true, laidKinds := [.data, .data, .data, .data, .handle, .sentinel, .sentinel, .pinned], laidTests := true, laidLooks := .later }
def SrcCommentsCardSaid : Prop := Claim7.holds Tryz.pinned (.plain (OpenSpec.ofChange srcCommentsSpec)) srcCommentsCard

/-- THE TIED CARD OF 'foliolaw05.SrcBehind'. -/
def srcBehindCard : Claim7 := { stood := { row := srcBehindRow, standIns := [], harness := (true, "15f3e6ea5f84d2613ee822a9f11f4a7664296857ea2debaf80d044492f5ff38d"), looks := true }, kinds := [], alts := [], laidByText := true, laidKinds := [.data, .data, .data, .data, .handle, .sentinel, .sentinel, .pinned], laidTests := true, laidLooks := .later }
def SrcBehindCardSaid : Prop := Claim7.holds Tryz.pinned (.plain (OpenSpec.ofChange srcBehindSpec)) srcBehindCard

/-- THE TIED CARD OF 'foliolaw05.SrcPlaces'. -/
def srcPlacesCard : Claim7 := { stood := { row := srcPlacesRow, standIns := [], harness := (true, "15f3e6ea5f84d2613ee822a9f11f4a7664296857ea2debaf80d044492f5ff38d"), looks := true }, kinds := [], alts := [], laidByText := true, laidKinds := [.data, .data, .data, .data, .handle, .sentinel, .sentinel, .pinned], laidTests := true, laidLooks := .later }
def SrcPlacesCardSaid : Prop := Claim7.holds Tryz.pinned (.plain (OpenSpec.ofChange srcPlacesSpec)) srcPlacesCard

/-- THE TIED CARD OF 'foliolaw05.SrcSame'. -/
def srcSameCard : Claim7 := { stood := { row := srcSameRow, standIns := [], harness := (true, "15f3e6ea5f84d2613ee822a9f11f4a7664296857ea2debaf80d044492f5ff38d"), looks := true }, kinds := [], alts := [], laidByText := true, laidKinds := [.data, .data, .data, .data, .handle, .sentinel, .sentinel, .pinned], laidTests := true, laidLooks := .later }
def SrcSameCardSaid : Prop := Claim7.holds Tryz.pinned (.plain (OpenSpec.ofChange srcSameSpec)) srcSameCard

/-- THE SECOND FORM's CARD OF 'foliolaw04.MarkLexes'. -/
def markLexesUptoCard : Claim7 := { stood := { row := markLexesUptoRow, standIns := [], harness := (true, "15f3e6ea5f84d2613ee822a9f11f4a7664296857ea2debaf80d044492f5ff38d"), looks := true }, kinds := [], alts := [], laidByText := true, laidKinds := [.data, .handle, .pinned], laidTests := true, laidLooks := .later }
def MarkLexesUptoCardSaid : Prop := Claim7.holds Tryz.pinned (.plain (OpenSpec.upto markLexesSpec)) markLexesUptoCard

/-- THE SECOND FORM's CARD OF 'foliolaw04.MarkBack'. -/
def markBackUptoCard : Claim7 := { stood := { row := markBackUptoRow, standIns := [], harness := (true, "15f3e6ea5f84d2613ee822a9f11f4a7664296857ea2debaf80d044492f5ff38d"), looks := true }, kinds := [], alts := [], laidByText := true, laidKinds := [.data, .handle, .pinned], laidTests := true, laidLooks := .later }
def MarkBackUptoCardSaid : Prop := Claim7.holds Tryz.pinned (.plain (OpenSpec.upto markBackSpec)) markBackUptoCard

/-- THE SECOND FORM's CARD OF 'foliolaw04.MarkParts'. -/
def markPartsUptoCard : Claim7 := { stood := { row := markPartsUptoRow, standIns := [], harness := (true, "15f3e6ea5f84d2613ee822a9f11f4a7664296857ea2debaf80d044492f5ff38d"), looks := true }, kinds := [], alts := [], laidByText := true, laidKinds := [.data, .handle, .pinned], laidTests := true, laidLooks := .later }
def MarkPartsUptoCardSaid : Prop := Claim7.holds Tryz.pinned (.plain (OpenSpec.upto markPartsSpec)) markPartsUptoCard

/-- THE SECOND FORM's CARD OF 'foliolaw04.MarkComments'. -/
def markCommentsUptoCard : Claim7 := { stood := { row := markCommentsUptoRow, standIns := [], harness := (true, "15f3e6ea5f84d2613ee822a9f11f4a7664296857ea2debaf80d044492f5ff38d"), looks := true }, kinds := [], alts := [], laidByText := true, laidKinds := [.data, .handle, .pinned], laidTests := true, laidLooks := .later }
def MarkCommentsUptoCardSaid : Prop := Claim7.holds Tryz.pinned (.plain (OpenSpec.upto markCommentsSpec)) markCommentsUptoCard

/-- THE SECOND FORM's CARD OF 'foliolaw05.SrcParses'. -/
def srcParsesUptoCard : Claim7 := { stood := { row := srcParsesUptoRow, standIns := [], harness := (true, "15f3e6ea5f84d2613ee822a9f11f4a7664296857ea2debaf80d044492f5ff38d"), looks := true }, kinds := [], alts := [], laidByText := true, laidKinds := [.data, .data, .data, .data, .handle, .sentinel, .sentinel, .pinned], laidTests := true, laidLooks := .later }
def SrcParsesUptoCardSaid : Prop := Claim7.holds Tryz.pinned (.plain (OpenSpec.upto srcParsesSpec)) srcParsesUptoCard

/-- THE SECOND FORM's CARD OF 'foliolaw05.SrcWrites'. -/
def srcWritesUptoCard : Claim7 := { stood := { row := srcWritesUptoRow, standIns := [], harness := (true, "15f3e6ea5f84d2613ee822a9f11f4a7664296857ea2debaf80d044492f5ff38d"), looks := true }, kinds := [], alts := [], laidByText := true, laidKinds := [.data, .data, .data, .data, .handle, .sentinel, .sentinel, .pinned], laidTests := true, laidLooks := .later }
def SrcWritesUptoCardSaid : Prop := Claim7.holds Tryz.pinned (.plain (OpenSpec.upto srcWritesSpec)) srcWritesUptoCard

/-- THE SECOND FORM's CARD OF 'foliolaw05.SrcBack'. -/
def srcBackUptoCard : Claim7 := { stood := { row := srcBackUptoRow, standIns := [], harness := (true, "15f3e6ea5f84d2613ee822a9f11f4a7664296857ea2debaf80d044492f5ff38d"), looks := true }, kinds := [], alts := [], laidByText := true, laidKinds := [.data, .data, .data, .data, .handle, .sentinel, .sentinel, .pinned], laidTests := true, laidLooks := .later }
def SrcBackUptoCardSaid : Prop := Claim7.holds Tryz.pinned (.plain (OpenSpec.upto srcBackSpec)) srcBackUptoCard

/-- THE SECOND FORM's CARD OF 'foliolaw05.SrcBalanced'. -/
def srcBalancedUptoCard : Claim7 := { stood := { row := srcBalancedUptoRow, standIns := [], harness := (true, "15f3e6ea5f84d2613ee822a9f11f4a7664296857ea2debaf80d044492f5ff38d"), looks := true }, kinds := [], alts := [], laidByText := true, laidKinds := [.data, .data, .data, .data, .handle, .sentinel, .sentinel, .pinned], laidTests := true, laidLooks := .later }
def SrcBalancedUptoCardSaid : Prop := Claim7.holds Tryz.pinned (.plain (OpenSpec.upto srcBalancedSpec)) srcBalancedUptoCard

/-- THE SECOND FORM's CARD OF 'foliolaw05.SrcComments'. -/
def srcCommentsUptoCard : Claim7 := { stood := { row := srcCommentsUptoRow, standIns := [], harness := (true, "15f3e6ea5f84d2613ee822a9f11f4a7664296857ea2debaf80d044492f5ff38d"), looks := true }, kinds := [], alts := [], laidByText := true, laidKinds := [.data, .data, .data, .data, .handle, .sentinel, .sentinel, .pinned], laidTests := true, laidLooks := .later }
def SrcCommentsUptoCardSaid : Prop := Claim7.holds Tryz.pinned (.plain (OpenSpec.upto srcCommentsSpec)) srcCommentsUptoCard

/-- THE SECOND FORM's CARD OF 'foliolaw05.SrcBehind'. -/
def srcBehindUptoCard : Claim7 := { stood := { row := srcBehindUptoRow, standIns := [], harness := (true, "15f3e6ea5f84d2613ee822a9f11f4a7664296857ea2debaf80d044492f5ff38d"), looks := true }, kinds := [], alts := [], laidByText := true, laidKinds := [.data, .data, .data, .data, .handle, .sentinel, .sentinel, .pinned], laidTests := true, laidLooks := .later }
def SrcBehindUptoCardSaid : Prop := Claim7.holds Tryz.pinned (.plain (OpenSpec.upto srcBehindSpec)) srcBehindUptoCard

/-- THE SECOND FORM's CARD OF 'foliolaw05.SrcPlaces'. -/
def srcPlacesUptoCard : Claim7 := { stood := { row := srcPlacesUptoRow, standIns := [], harness := (true, "15f3e6ea5f84d2613ee822a9f11f4a7664296857ea2debaf80d044492f5ff38d"), looks := true }, kinds := [], alts := [], laidByText := true, laidKinds := [.data, .data, .data, .data, .handle, .sentinel, .sentinel, .pinned], laidTests := true, laidLooks := .later }
def SrcPlacesUptoCardSaid : Prop := Claim7.holds Tryz.pinned (.plain (OpenSpec.upto srcPlacesSpec)) srcPlacesUptoCard

/-- THE SECOND FORM's CARD OF 'foliolaw05.SrcSame'. -/
def srcSameUptoCard : Claim7 := { stood := { row := srcSameUptoRow, standIns := [], harness := (true, "15f3e6ea5f84d2613ee822a9f11f4a7664296857ea2debaf80d044492f5ff38d"), looks := true }, kinds := [], alts := [], laidByText := true, laidKinds := [.data, .data, .data, .data, .handle, .sentinel, .sentinel, .pinned], laidTests := true, laidLooks := .later }
def SrcSameUptoCardSaid : Prop := Claim7.holds Tryz.pinned (.plain (OpenSpec.upto srcSameSpec)) srcSameUptoCard
end Rows
end Go.Proofs.YtmceiehnfmgioaaGreatDoor
