/- The program's small functions of layer 2: within, Width, Small, Base. -/
import Derived.Test.YtoeknophfcfahaaGreatDoorBasen
namespace Go.Proofs.YtoeknophfcfahaaGreatDoor
open Go.RowKit

theorem within_pro (r lo hi : Int) (w : World) :
    Calls Tryz.prog 75 #[.int .i32 r, .int .i32 lo, .int .i32 hi] w fun e w' => e = .returned (.bool (inB r lo hi)) ∧ w = w' := by
  go_enter Tryz.func75, Tryz.ntmps75
  go_wp2
  all_goals go_ret
  all_goals (refine ⟨ret_bool ?_, rfl⟩; rw [Bool.eq_iff_iff]; simp [inB]; try omega)

set_option maxRecDepth 100000 in
set_option maxHeartbeats 2000000 in
theorem width_q (r : Int) (w : World) :
    Calls Tryz.prog 137 #[.int .i32 r] w fun e w' => e = .returned (.int .i64 (wid r)) ∧ w = w' := by
  go_enter Tryz.func137, Tryz.ntmps137
  go_wp2_with (first | (go_at_call 75; refine (within_pro _ _ _ _).mono ?_; rintro e w' ⟨rfl, rfl⟩))
  all_goals go_ret
  all_goals (refine ⟨ret_int ?_, rfl⟩; simp [wid, ctl, *])

set_option maxRecDepth 100000 in
set_option maxHeartbeats 2000000 in
theorem small_q (r : Int) (w : World) (hr : -2147483648 ≤ r ∧ r ≤ 2147483647) :
    Calls Tryz.prog 65 #[.int .i32 r] w fun e w' => e = .returned (.int .i32 (sml r)) ∧ w = w' := by
  have key : ∀ lo hi k : Int, inB r lo hi = true → hi ≤ 2000 → 0 ≤ k → k ≤ 80 → wrap32 (r + k) = r + k := by
    intro lo hi k h h1 h2 h3
    simp [inB] at h
    unfold wrap32
    omega
  have K := Lib.hid key
  clear key
  by_cases h1 : r = 215
  · subst h1
    go_enter Tryz.func65, Tryz.ntmps65
    go_wp2_with (first | (go_at_call 75; refine (within_pro _ _ _ _).mono ?_; rintro e w' ⟨rfl, rfl⟩))
    go_ret
    exact ⟨rfl, rfl⟩
  by_cases h2 : r = 930
  · subst h2
    go_enter Tryz.func65, Tryz.ntmps65
    go_wp2_with (first | (go_at_call 75; refine (within_pro _ _ _ _).mono ?_; rintro e w' ⟨rfl, rfl⟩))
    go_ret
    exact ⟨rfl, rfl⟩
  have t1 : (r == 215) = false := by simpa using h1
  have t2 : (r == 930) = false := by simpa using h2
  have H1 := Lib.hid h1
  have H2 := Lib.hid h2
  clear h1 h2
  go_enter Tryz.func65, Tryz.ntmps65
  go_wp2_with (first | (go_at_call 75; refine (within_pro _ _ _ _).mono ?_; rintro e w' ⟨rfl, rfl⟩))
  all_goals go_ret
  all_goals (refine ⟨ret_int ?_, rfl⟩; have h1 := H1.out; have h2 := H2.out; simp [sml, *])
  all_goals first | decide | ((with_reducible refine K.out _ _ _ ‹_› ?_ ?_ ?_) <;> omega) | (exfalso; simp_all; done)

set_option maxRecDepth 100000 in
set_option maxHeartbeats 2000000 in
theorem base_q (r : Int) (w : World) (hr : -2147483648 ≤ r ∧ r ≤ 2147483647) :
    Calls Tryz.prog 138 #[.int .i32 r] w fun e w' => e = .returned (.string (bas r)) ∧ w = w' := by
  have HR := Lib.hid hr
  clear hr
  go_enter Tryz.func138, Tryz.ntmps138
  go_wp2_with (first | (go_at_call 65; refine (small_q _ _ HR.out).mono ?_; rintro e w' ⟨rfl, rfl⟩) | (go_at_call 75; refine (within_pro _ _ _ _).mono ?_; rintro e w' ⟨rfl, rfl⟩))
  all_goals go_ret
  all_goals (refine ⟨ret_str ?_, rfl⟩; simp [bas, basOf, *] <;> (intros; simp_all))
end Go.Proofs.YtoeknophfcfahaaGreatDoor
