/- Base of the document's answer for layer 2. -/
import Derived.Test.YtoeknophfcfahaaGreatDoorSmalln
import Derived.Outline
import Derived.WalkLawsBesides
namespace Go.Proofs.YtoeknophfcfahaaGreatDoor
open Go.RowKit

def basOf (s : Int) : ByteArray :=
  if inB s 224 229 then ⟨#[97]⟩ else if s == 230 then ⟨#[97, 101]⟩ else if s == 231 then ⟨#[99]⟩ else if inB s 232 235 then ⟨#[101]⟩ else if inB s 236 239 then ⟨#[105]⟩
  else if s == 240 then ⟨#[100]⟩ else if s == 241 then ⟨#[110]⟩ else if inB s 242 246 || s == 248 then ⟨#[111]⟩ else if inB s 249 252 then ⟨#[117]⟩
  else if s == 253 || s == 255 then ⟨#[121]⟩ else if s == 254 then ⟨#[116, 104]⟩ else if s == 223 then ⟨#[115, 115]⟩ else Utf8.encode s
/-- What a letter is without its marks. -/
def bas (r : Int) : ByteArray := basOf (sml r)
theorem ret_str {a b : ByteArray} (h : a = b) : Ending.returned (.string a) = Ending.returned (.string b) := by rw [h]

set_option maxRecDepth 100000 in
set_option maxHeartbeats 1000000 in
theorem base_ref (r : Int) (w : World) (hr : -2147483648 ≤ r ∧ r ≤ 2147483647) :
    Calls Tryz.prog 115 #[.int .i32 r] w fun e w' => e = .returned (.string (bas r)) ∧ w = w' := by
  have HR := Lib.hid hr
  clear hr
  go_enter Tryz.func115, Tryz.ntmps115
  go_wp2_with (first | (go_at_call 83; refine (small_ref _ _ HR.out).mono ?_; rintro e w' ⟨rfl, rfl⟩) | (go_at_call 113; refine (in_ref _ _ _ _).mono ?_; rintro e w' ⟨rfl, rfl⟩))
  all_goals go_ret
  all_goals (refine ⟨ret_str ?_, rfl⟩; simp [bas, basOf, *] <;> (intros; simp_all))
end Go.Proofs.YtoeknophfcfahaaGreatDoor
