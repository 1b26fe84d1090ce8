/- Layer 12: the document's apart. -/
import Derived.Test.YtadecjjbpoaooaaVd
import Derived.Test.YtadecjjbpoaooaaVh
namespace Go.Proofs.Ytadecjjbpoaooaa.Tb
open Go.RowKit Go.Maps
set_option linter.unusedVariables false
set_option linter.unusedSimpArgs false
def apartF (cs : List (Int × Int)) : Bool := standF 0 cs && decide (1 ≤ cs.length ∧ cs.length ≤ 8)
theorem stand_no {d : Int} {c : Int × Int} {cs : List (Int × Int)} (hd : 0 ≤ d) (h : c.1 < d ∨ 200 < c.1 ∨ c.2 < 1 ∨ 200 < c.2 ∨ 200 < c.1 + c.2) : standF d (c :: cs) = false := by
  rw [standF_cons]
  unfold within
  by_cases h1 : 1 ≤ c.2 ∧ c.2 ≤ 200
  · have h2 : ¬ (d ≤ c.1 ∧ c.1 ≤ 200 - c.2) := by omega
    simp [h1, h2]
  · simp [h1]
theorem stand_yes {d : Int} {c : Int × Int} {cs : List (Int × Int)} (h : ¬ (c.1 < d ∨ 200 < c.1 ∨ c.2 < 1 ∨ 200 < c.2 ∨ 200 < c.1 + c.2)) : standF d (c :: cs) = standF (c.1 + c.2) cs := by
  rw [standF_cons]
  unfold within
  have h1 : 1 ≤ c.2 ∧ c.2 ≤ 200 := by omega
  have h2 : d ≤ c.1 ∧ c.1 ≤ 200 - c.2 := by omega
  simp [h1, h2]
end Go.Proofs.Ytadecjjbpoaooaa.Tb
