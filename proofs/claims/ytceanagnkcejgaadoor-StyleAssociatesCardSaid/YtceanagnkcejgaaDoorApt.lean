/- The law's apart. -/
import Derived.Test.YtceanagnkcejgaaDoorSh
import Derived.Test.YtceanagnkcejgaaDoorBt
namespace Go.Proofs.YtceanagnkcejgaaDoor
open Go.RowKit
set_option linter.unusedVariables false

set_option maxRecDepth 100000 in
theorem apart_law (c : Chg) (w : World) : Calls Tryd.prog 13 #[chgVal c] w (Says (.bool (bits .and .i64 c.on c.off == 0)) w) := by
  unfold chgVal
  go_enter Tryd.func13, Tryd.ntmps13
  go_wp2_with fail
  go_ret
  exact ⟨rfl, (Below.refl _ w).alloc (Nat.le_refl _) _⟩
end Go.Proofs.YtceanagnkcejgaaDoor
