/- The library's functions on texts that the program calls, at this program's numbers. -/
import Derived.Test.YtmceiehnfmgioaaGreatDoorShelf
import Derived.Test.YtmceiehnfmgioaaGreatDoorMk
import Derived.Test.YtmceiehnfmgioaaGreatDoorOBase
import Derived.Shelf.Strings.SlTrimAscii
namespace Go.Proofs.YtmceiehnfmgioaaGreatDoor
open Go.RowKit
set_option linter.unusedVariables false

theorem zeroSet : ∀ w, (zeroValue 273).run Tryz.prog w = .ok (.agg (Array.replicate 256 (.bool false))) w := fun w => by kernel_rfl
theorem infoSet : (Tryz.prog.info? 273).map (·.size) = some 256 := by kernel_rfl
theorem ascii_cut {cs : List UInt8} (h : cs.all (fun b => b.toNat < 128) = true) : ∀ (j : Nat) b, (bs cs).data.toList[j]? = some b → b.toNat < 128 := by
  intro j b hb
  have : b ∈ cs := List.mem_of_getElem? (by simpa [bs] using hb)
  have := List.all_eq_true.1 h b this
  simpa using this
theorem trimLeft_pro (l cs : List UInt8) (w : World) (hc : cs.length < 4294967281) (ha : cs.all (fun b => b.toNat < 128) = true) :
    Calls Tryz.prog 219 #[.string (bs l), .string (bs cs)] w (Says (.string (bs (Lib.trimLeftS l cs))) w) :=
  Any.strings_TrimLeft_ascii Tryz.lays161 zeroSet infoSet (bs l) (bs cs) w (by show cs.toArray.size < _; simpa using hc) (ascii_cut ha)
theorem trim_pro (l cs : List UInt8) (w : World) (hl : l.length ≤ 9223372036854775807) (hc : cs.length < 4294967281) (ha : cs.all (fun b => b.toNat < 128) = true) :
    Calls Tryz.prog 135 #[.string (bs l), .string (bs cs)] w (Says (.string (bs (Lib.trimS l cs))) w) :=
  Any.strings_Trim_ascii Tryz.lays160 zeroSet infoSet (bs l) (bs cs) w (by show l.toArray.size ≤ _; simpa using hl) (by show cs.toArray.size < _; simpa using hc) (ascii_cut ha)
end Go.Proofs.YtmceiehnfmgioaaGreatDoor
