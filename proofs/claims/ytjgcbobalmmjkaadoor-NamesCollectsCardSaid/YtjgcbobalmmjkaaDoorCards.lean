/-
  DERIVED. GIVEN WITH THE SEED: THE CARDS: each row of YtjgcbobalmmjkaaDoorRows.lean that lists a variable, with what it lists TIED to the program's text (the seventh form; the later family's looks); each row that meets fmt, with fmt's text TOLD by the authors' own Lean function (tested against real Go, not proved from fmt's source: count such statements apart). THE CARD IS WHAT COUNTS. Prove the row's statement (the work); the ties are given (YtjgcbobalmmjkaaDoorTie.lean); close each card by the builder's one call (the guide's Derived/Test/ToyasCard.lean, 'card_holds'). Laid BY PROGRAM, IN A SANDBOX (cutbox-door.mjs). By AI agents, Wed Nov 11 2026. No macro, syntax, notation, axiom, sorry.
-/
import Derived.Test.YtjgcbobalmmjkaaDoorRows
import GoSem.ClaimSeven
namespace Go.Proofs.YtjgcbobalmmjkaaDoor
namespace Rows

/-- THE TIED CARD OF 'foliolaw07.NamesCollects'. -/
def namesCollectsCard : Claim7 := { stood := { row := namesCollectsRow, standIns := [], harness := (true, "d7c2c9a9ef90b280d4a7a0887c5bd041459c583d72d0e40c63549baf060e559c"), looks := true }, kinds := [], alts := [], laidByText := true, laidKinds := [.data, .pinned], laidTests := true, laidLooks := .later }
def NamesCollectsCardSaid : Prop := Claim7.holds Tryd.pinned (.plain (OpenSpec.ofChange namesCollectsSpec)) namesCollectsCard

/-- THE TIED CARD OF 'foliolaw08.LinkAll'. -/
def linkAllCard : Claim7 := { stood := { row := linkAllRow, standIns := [], harness := (true, "d7c2c9a9ef90b280d4a7a0887c5bd041459c583d72d0e40c63549baf060e559c"), looks := true }, kinds := [], alts := [], laidByText := true, laidKinds := [.data, .pinned], laidTests := true, laidLooks := .later }
def LinkAllCardSaid : Prop := Claim7.holds Tryd.pinned (.plain (OpenSpec.ofChange linkAllSpec)) linkAllCard

/-- THE SECOND FORM's CARD OF 'foliolaw07.NamesCollects'. -/
def namesCollectsUptoCard : Claim7 := { stood := { row := namesCollectsUptoRow, standIns := [], harness := (true, "d7c2c9a9ef90b280d4a7a0887c5bd041459c583d72d0e40c63549baf060e559c"), looks := true }, kinds := [], alts := [], laidByText := true, laidKinds := [.data, .pinned], laidTests := true, laidLooks := .later }
def NamesCollectsUptoCardSaid : Prop := Claim7.holds Tryd.pinned (.plain (OpenSpec.upto namesCollectsSpec)) namesCollectsUptoCard

/-- THE SECOND FORM's CARD OF 'foliolaw08.LinkAll'. -/
def linkAllUptoCard : Claim7 := { stood := { row := linkAllUptoRow, standIns := [], harness := (true, "d7c2c9a9ef90b280d4a7a0887c5bd041459c583d72d0e40c63549baf060e559c"), looks := true }, kinds := [], alts := [], laidByText := true, laidKinds := [.data, .pinned], laidTests := true, laidLooks := .later }
def LinkAllUptoCardSaid : Prop := Claim7.holds Tryd.pinned (.plain (OpenSpec.upto linkAllSpec)) linkAllUptoCard
end Rows
end Go.Proofs.YtjgcbobalmmjkaaDoor
