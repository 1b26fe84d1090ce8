/- The texts that the laws of layout stand on, part 6. -/
import Derived.Test.YtjohhahfpgfjdaaGreatDoorK2
import Derived.Test.YtjohhahfpgfjdaaGreatDoorK5
import Derived.Deep.RegionLaw
import Derived.Deep.CutRange
section
namespace Go.Proofs.YtjohhahfpgfjdaaGreatDoor.Tb
open Go.RowKit Go.Maps
set_option linter.unusedVariables false
set_option linter.unusedSimpArgs false
def letG (s : ByteArray) (i : Nat) : Gl := ⟨s.extract i (i + 1), 1, 0, 7, 0⟩
def letsK (s : ByteArray) (k : Nat) : List Gl := (List.range k).map (letG s)
def letsL (s : ByteArray) : List Gl := letsK s s.size
theorem letsK_len (s : ByteArray) (k : Nat) : (letsK s k).length = k := by simp [letsK]
theorem letsK_succ (s : ByteArray) (k : Nat) : rowsG (letsK s (k + 1)) = rowsG (letsK s k) ++ glRow (letG s k) := by
  simp [letsK, List.range_succ, rowsG]
end Go.Proofs.YtjohhahfpgfjdaaGreatDoor.Tb
end
