/- The first examples of chapter 3, by the contracts. -/
import Derived.Test.YtcgeldmbndaocaaDoorUint
import Derived.Test.YtcgeldmbndaocaaDoorSum
import Derived.Test.YtcgeldmbndaocaaDoorOPgood
namespace Go.Proofs.YtcgeldmbndaocaaDoor
open Go.RowKit Go.Maps

/-- Whether a text may be. -/
def may (s : ByteArray) : Bool := ((chars s).find? unplain).isNone
set_option maxRecDepth 100000 in
set_option maxHeartbeats 2000000 in
theorem may_pro (s : ByteArray) (w : World) (hs : s.size ≤ 16777216) (hT : Tabs w) : Calls Tryd.prog 13 #[.string s] w (Says (.bool (may s)) w) := by
  have HS := Lib.hid hs
  have HT := Lib.hid hT
  clear hs hT
  go_enter Tryd.func13, Tryd.ntmps13
  go_wp2_with fail
  refine (plain_pro s _ HS.out HT.out).mono ?_
  rintro e w1 ⟨rfl, h⟩
  have HB := Lib.hid h
  clear h
  go_wp2_with fail
  go_ret
  exact ⟨rfl, HB.out⟩
end Go.Proofs.YtcgeldmbndaocaaDoor
