/- What is proved: LayoutHits holds of all lines, layouts and places (the statement's second form). Its condition: what comes in is of bulk at most 1048576. Part 13: its texts. -/
import Derived.Test.YtalomeialegmiaaGreatDoorKLayoutHits1
import Derived.Test.YtalomeialegmiaaGreatDoorKLayoutHits5
import Derived.Deep.RegionLaw
import Derived.Deep.CutRange
section
namespace Go.Proofs.YtalomeialegmiaaGreatDoor.Tb
open Go.RowKit Go.Maps
set_option linter.unusedVariables false
set_option linter.unusedSimpArgs false
def letG (s : ByteArray) (i : Nat) : Gl := ⟨s.extract i (i + 1), 1, 0, 7, 0⟩
def letsK (s : ByteArray) (k : Nat) : List Gl := (List.range k).map (letG s)
def letsL (s : ByteArray) : List Gl := letsK s s.size
theorem letsK_len (s : ByteArray) (k : Nat) : (letsK s k).length = k := by simp [letsK]
theorem letsK_succ (s : ByteArray) (k : Nat) : rowsG (letsK s (k + 1)) = rowsG (letsK s k) ++ glRow (letG s k) := by
  simp [letsK, List.range_succ, rowsG]
end Go.Proofs.YtalomeialegmiaaGreatDoor.Tb
end
