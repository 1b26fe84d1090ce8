/- Layer 12: the document's word. -/
import Derived.Test.YtadecjjbpoaooaaUm
namespace Go.Proofs.Ytadecjjbpoaooaa.Tb
open Go.RowKit Go.Maps
set_option linter.unusedVariables false
set_option linter.unusedSimpArgs false
theorem fl_intD {B g : Nat} {wide : Int} {K : Nat → Prop} {s : Fs} {w : World} (h : Fl false B g wide K s w) : w.cell? ⟨g, 2, none⟩ = some (.int .i64 (wid s.line)) ∧ w.cell? ⟨g, 4, none⟩ = some (.int .i64 wide) := by
  obtain ⟨_, _, _, _, h⟩ := h
  obtain ⟨_, _, q2, _, q4⟩ := bx_cellsD h.blk
  exact ⟨q2, q4⟩
theorem small_le {l : List Gl} (h : ∀ x ∈ l, 1 ≤ x.wd ∧ x.wd ≤ 2) : SmallW l := fun g hg => by have := h g hg; omega
theorem part_bd {wide : Int} {a l : List Gl} (ha : ∀ x ∈ a, 1 ≤ x.wd ∧ x.wd ≤ 2) (hl : ∀ x ∈ l, 1 ≤ x.wd ∧ x.wd ≤ 2) (h : wid (a ++ l) ≤ wide) (k : Nat) : ((a ++ l.take k).length : Int) ≤ wide ∧ 0 ≤ wid (a ++ l.take k) ∧ wid (a ++ l.take k) ≤ wide := by
  have h1 : wid (a ++ l) = wid (a ++ l.take k) + wid (l.drop k) := by
    rw [← wid_app, List.append_assoc, List.take_append_drop]
  have h2 := (wid_ge (l.drop k) fun x hx => hl x (List.mem_of_mem_drop hx)).1
  have h3 := (wid_ge (a ++ l.take k) fun x hx => by
    rcases List.mem_append.1 hx with hx | hx
    · exact ha x hx
    · exact hl x (List.mem_of_mem_take hx)).1
  omega
end Go.Proofs.Ytadecjjbpoaooaa.Tb
