/- The small functions of the document's answer for layer 2: in, Control, Width, Small. -/
import Derived.Test.YtoeknophfcfahaaGreatDoorProg
import Derived.WalkKit
import Derived.Lib.Hide
import Derived.IntWalk
namespace Go.Proofs.YtoeknophfcfahaaGreatDoor
open Go.RowKit

def inB (r lo hi : Int) : Bool := decide (lo ≤ r ∧ r ≤ hi)
def ctl (r : Int) : Bool := inB r 0 31 || inB r 127 159
def wid (r : Int) : Int :=
  if ctl r || inB r 768 879 || inB r 8203 8205 || inB r 65024 65039 then 0
  else if inB r 4352 4447 || inB r 11904 12350 || inB r 12353 13311 || inB r 13312 19903 || inB r 19968 42191 || inB r 44032 55203 then 2
  else if inB r 63744 64255 || inB r 65072 65135 || inB r 65280 65376 || inB r 65504 65510 || inB r 127744 128591 || inB r 129280 129535 || inB r 131072 262141 then 2
  else 1
def sml (r : Int) : Int :=
  if inB r 65 90 || inB r 192 222 && r != 215 || inB r 913 937 && r != 930 || inB r 1040 1071 then r + 32
  else if inB r 1024 1039 then r + 80 else r

theorem ret_bool {a b : Bool} (h : a = b) : Ending.returned (.bool a) = Ending.returned (.bool b) := by rw [h]
theorem ret_int {k : IntKind} {a b : Int} (h : a = b) : Ending.returned (.int k a) = Ending.returned (.int k b) := by rw [h]

theorem in_ref (r lo hi : Int) (w : World) :
    Calls Tryz.prog 113 #[.int .i32 r, .int .i32 lo, .int .i32 hi] w fun e w' => e = .returned (.bool (inB r lo hi)) ∧ w = w' := by
  go_enter Tryz.func113, Tryz.ntmps113
  go_wp2
  all_goals go_ret
  all_goals (refine ⟨ret_bool ?_, rfl⟩; rw [Bool.eq_iff_iff]; simp [inB]; try omega)

theorem control_ref (r : Int) (w : World) :
    Calls Tryz.prog 82 #[.int .i32 r] w fun e w' => e = .returned (.bool (ctl r)) ∧ w = w' := by
  go_enter Tryz.func82, Tryz.ntmps82
  go_wp2
  all_goals go_ret
  all_goals (refine ⟨ret_bool ?_, rfl⟩; rw [Bool.eq_iff_iff]; simp [ctl, inB]; try omega)

theorem width_ref (r : Int) (w : World) :
    Calls Tryz.prog 114 #[.int .i32 r] w fun e w' => e = .returned (.int .i64 (wid r)) ∧ w = w' := by
  go_enter Tryz.func114, Tryz.ntmps114
  go_wp2_with (first | (go_at_call 113; refine (in_ref _ _ _ _).mono ?_; rintro e w' ⟨rfl, rfl⟩) | (go_at_call 82; refine (control_ref _ _).mono ?_; rintro e w' ⟨rfl, rfl⟩))
  all_goals go_ret
  all_goals (refine ⟨ret_int ?_, rfl⟩; simp [wid, *])

theorem small_ref (r : Int) (w : World) (hr : -2147483648 ≤ r ∧ r ≤ 2147483647) :
    Calls Tryz.prog 83 #[.int .i32 r] w fun e w' => e = .returned (.int .i32 (sml r)) ∧ w = w' := by
  have key : ∀ lo hi k : Int, inB r lo hi = true → hi ≤ 2000 → 0 ≤ k → k ≤ 80 → wrap32 (r + k) = r + k := by
    intro lo hi k h h1 h2 h3
    simp [inB] at h
    unfold wrap32
    omega
  have K := Lib.hid key
  clear key
  go_enter Tryz.func83, Tryz.ntmps83
  go_wp2_with (first | (go_at_call 113; refine (in_ref _ _ _ _).mono ?_; rintro e w' ⟨rfl, rfl⟩))
  all_goals go_ret
  all_goals (refine ⟨ret_int ?_, rfl⟩; simp [sml, *])
  all_goals first | decide | (refine K.out _ _ _ ‹_› ?_ ?_ ?_ <;> omega)
end Go.Proofs.YtoeknophfcfahaaGreatDoor
