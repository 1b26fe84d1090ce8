/- Cells of the document's answer for layer 2. -/
import Derived.Test.YtoeknophfcfahaaGreatDoorCharsn
import Derived.Test.YtoeknophfcfahaaGreatDoorCelsn
import Derived.Deep.QuietTactic
import Derived.BigQuiet
namespace Go.Proofs.YtoeknophfcfahaaGreatDoor
open Go.RowKit Go.Maps

theorem own_drewN {w : World} {base : Nat} {e : TypeId} {size : Nat} {v : Value} {n : Nat} {xs : List Value} (h : w.ownsRow base e size v n xs) (m : Nat) : (w.drewN m).ownsRow base e size v n xs := h
end Go.Proofs.YtoeknophfcfahaaGreatDoor
