/- Layer 12: the document's Row. -/
import Derived.Test.YtadecjjbpoaooaaVm
import Derived.Test.YtadecjjbpoaooaaUo
import Derived.Maps.AppendAt
namespace Go.Proofs.Ytadecjjbpoaooaa.Tb
open Go.RowKit Go.Maps
set_option linter.unusedVariables false
set_option linter.unusedSimpArgs false
/-- The parts of which k are made. -/
def AtP (cs : List (Int × Int)) (fs : List (List Gl)) (k : Nat) (ps : List (List (List Gl))) : Prop :=
  ps.length = k ∧ partsF cs fs = ps ++ partsF (cs.drop k) (fs.drop k) ∧ errF cs fs = errF (cs.drop k) (fs.drop k) ∧ tallF 0 ps * 48 ≤ 140737488355328
theorem cells_newP (w : World) (cs : Array Value) (t : TypeId) : ∀ j u, cs.toList[j]? = some u → (w.alloc (.cells cs t)).cell? ((⟨w.heap.size, 0, none⟩ : Addr).add j) = some u := World.news_of_block (heap_alloc_new w _)
theorem parts_ok : ∀ (cs : List (Int × Int)) (fs : List (List Gl)), errF cs fs = 0 → ∀ i (hi : i < (partsF cs fs).length) (hc : i < cs.length), ∀ r ∈ (partsF cs fs)[i], LineOk cs[i].2 r
  | [], _, _, i, hi, hc => absurd hc (by simp)
  | _ :: _, [], _, i, hi, hc => absurd hi (by simp [partsF])
  | c :: cs, f :: fs, h, i, hi, hc => by
    simp only [errF] at h
    split at h
    · rename_i h0
      cases i with
      | zero => exact fill_lines h0
      | succ i => exact parts_ok cs fs h i (by simpa [partsF] using hi) (by simpa using hc)
    · rename_i h0
      exact absurd h h0
theorem lineF_cons {j : Nat} {r : List Gl} {c : Int × Int} {cs : List (Int × Int)} {p : List (List Gl)} {ps : List (List (List Gl))} : lineF j r (c :: cs) (p :: ps) = lineF j (if j < p.length then putLine r c.1 (p.getD j []) else r) cs ps := rfl
/-- The line of which i columns are done. -/
def LineAt (j : Nat) (cs : List (Int × Int)) (ps : List (List (List Gl))) (i : Nat) (d : Int) (r : List Gl) : Prop :=
  0 ≤ d ∧ d ≤ 200 ∧ standF d (cs.drop i) = true ∧ LineOk d r ∧ lineF j [] cs ps = lineF j r (cs.drop i) (ps.drop i)
end Go.Proofs.Ytadecjjbpoaooaa.Tb
