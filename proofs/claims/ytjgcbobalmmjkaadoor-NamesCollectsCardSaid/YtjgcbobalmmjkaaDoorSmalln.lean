/- The small functions of the document's answer for layer 2: in, Control, Width, Small. -/
import Derived.Test.YtjgcbobalmmjkaaDoorProg
import Derived.WalkKit
import Derived.Lib.Hide
import Derived.IntWalk
namespace Go.Proofs.YtjgcbobalmmjkaaDoor
open Go.RowKit

def inB (r lo hi : Int) : Bool := decide (lo ≤ r ∧ r ≤ hi)
def ctl (r : Int) : Bool := inB r 0 31 || inB r 127 159
def wid (r : Int) : Int :=
  if ctl r || inB r 768 879 || inB r 8203 8205 || inB r 65024 65039 then 0
  else if inB r 4352 4447 || inB r 11904 12350 || inB r 12353 13311 || inB r 13312 19903 || inB r 19968 42191 || inB r 44032 55203 then 2
  else if inB r 63744 64255 || inB r 65072 65135 || inB r 65280 65376 || inB r 65504 65510 || inB r 127744 128591 || inB r 129280 129535 || inB r 131072 262141 then 2
  else 1
def sml (r : Int) : Int :=
  if inB r 65 90 || inB r 192 222 && r != 215 || inB r 913 937 && r != 930 || inB r 1040 1071 then r + 32
  else if inB r 1024 1039 then r + 80 else r

theorem ret_bool {a b : Bool} (h : a = b) : Ending.returned (.bool a) = Ending.returned (.bool b) := by rw [h]
theorem ret_int {k : IntKind} {a b : Int} (h : a = b) : Ending.returned (.int k a) = Ending.returned (.int k b) := by rw [h]

end Go.Proofs.YtjgcbobalmmjkaaDoor
