/- The program's small functions of layer 2: within, Width, Small, Base. -/
import Derived.Test.YtceanagnkcejgaaGreatDoorBases
namespace Go.Proofs.YtceanagnkcejgaaGreatDoor
open Go.RowKit

theorem within_pro (r lo hi : Int) (w : World) :
    Calls Tryz.prog 97 #[.int .i32 r, .int .i32 lo, .int .i32 hi] w fun e w' => e = .returned (.bool (inB r lo hi)) ∧ w = w' := by
  go_enter Tryz.func97, Tryz.ntmps97
  go_wp2
  all_goals go_ret
  all_goals (refine ⟨ret_bool ?_, rfl⟩; rw [Bool.eq_iff_iff]; simp [inB]; try omega)

set_option maxRecDepth 100000 in
set_option maxHeartbeats 2000000 in
theorem width_q (r : Int) (w : World) :
    Calls Tryz.prog 82 #[.int .i32 r] w fun e w' => e = .returned (.int .i64 (wid r)) ∧ w = w' := by
  go_enter Tryz.func82, Tryz.ntmps82
  go_wp2_with (first | (go_at_call 97; refine (within_pro _ _ _ _).mono ?_; rintro e w' ⟨rfl, rfl⟩))
  all_goals go_ret
  all_goals (refine ⟨ret_int ?_, rfl⟩; simp [wid, ctl, *])

end Go.Proofs.YtceanagnkcejgaaGreatDoor
