/- The program's faults: what New makes; a fault that was made, told without a way. -/
import Derived.Test.YtjnnkelbedmccaaProg
import Derived.WalkKit
import Derived.Lib.Hide
import Derived.IntWalk
import Derived.BigRegion
namespace Go.Proofs.Ytjnnkelbedmccaa
open Go.RowKit
set_option linter.unusedVariables false

/-- What is told of a fault. -/
structure Flt where
  code : Int
  source : Int
  line : Int
  col : Int
  word : ByteArray
/-- The fault lies in block g. -/
def Erd (w : World) (g : Nat) (f : Flt) : Prop :=
  w.heap[g]? = some (.cells #[.int .i64 f.code, .int .i64 f.source, .int .i64 f.line, .int .i64 f.col, .string f.word] 96 (0, 0)) ∧ f.code ≠ 0
theorem Erd.below {w w' : World} {g : Nat} {f : Flt} (h : Erd w g f) (hb : Below w.heap.size w w') : Erd w' g f :=
  ⟨(hb.block g (Array.getElem?_eq_some_iff.1 h.1).1).trans h.1, h.2⟩
theorem Erd.cells {w : World} {g : Nat} {f : Flt} (h : Erd w g f) : w.cell? ⟨g, 0, none⟩ = some (.int .i64 f.code) ∧ w.cell? ⟨g, 1, none⟩ = some (.int .i64 f.source) ∧ w.cell? ⟨g, 2, none⟩ = some (.int .i64 f.line) ∧ w.cell? ⟨g, 3, none⟩ = some (.int .i64 f.col) ∧ w.cell? ⟨g, 4, none⟩ = some (.string f.word) := by
  refine ⟨?_, ?_, ?_, ?_, ?_⟩ <;> (rw [cell_of_row w g _ _ _ _ h.1]; rfl)
def Flt.val (f : Flt) : Value := .agg #[.int .i64 f.code, .int .i64 f.source, .int .i64 f.line, .int .i64 f.col, .string f.word, .slice none 0 0]

theorem told6 (w : World) (g : Nat) (a0 a1 a2 a3 a4 a5 v0 v1 v2 v3 v4 v5 : Value) (t : TypeId) (h : w.heap[g]? = some (.cells #[a0, a1, a2, a3, a4, a5] t (0, 0))) :
    ((((((w.setCell ⟨g, 0, none⟩ v0).setCell ⟨g, 1, none⟩ v1).setCell ⟨g, 2, none⟩ v2).setCell ⟨g, 3, none⟩ v3).setCell ⟨g, 4, none⟩ v4).setCell ⟨g, 5, none⟩ v5).heap[g]? = some (.cells #[v0, v1, v2, v3, v4, v5] t (0, 0)) :=
  heap_setCell_same _ g 5 _ t v5 (heap_setCell_same _ g 4 _ t v4 (heap_setCell_same _ g 3 _ t v3 (heap_setCell_same _ g 2 _ t v2 (heap_setCell_same _ g 1 _ t v1 (heap_setCell_same _ g 0 _ t v0 h)))))
theorem set6_below (w1 : World) (g : Nat) (v0 v1 v2 v3 v4 v5 : Value) {B : Nat} (hB : B ≤ g) {w : World} (h : Below B w w1) :
    Below B w ((((((w1.setCell ⟨g, 0, none⟩ v0).setCell ⟨g, 1, none⟩ v1).setCell ⟨g, 2, none⟩ v2).setCell ⟨g, 3, none⟩ v3).setCell ⟨g, 4, none⟩ v4).setCell ⟨g, 5, none⟩ v5) :=
  (((((h.setCell (p := ⟨g, 0, none⟩) hB _).setCell (p := ⟨g, 1, none⟩) hB _).setCell (p := ⟨g, 2, none⟩) hB _).setCell (p := ⟨g, 3, none⟩) hB _).setCell (p := ⟨g, 4, none⟩) hB _).setCell (p := ⟨g, 5, none⟩) hB _

set_option maxRecDepth 100000 in
set_option maxHeartbeats 2000000 in
theorem fnew_pro (f : Flt) (w : World) (h : f.code ≠ 0) :
    Calls Try.prog 41 #[.int .i64 f.code, .int .i64 f.source, .int .i64 f.line, .int .i64 f.col, .string f.word] w fun e w' => e = .returned (.iface 94 (.pointer (some ⟨w.heap.size, 0, none⟩))) ∧ Erd w' w.heap.size f ∧ Below w.heap.size w w' := by
  have H := Lib.hid h
  go_enter Try.func41, Try.ntmps41
  go_wp2_with fail
  go_ret
  exact ⟨rfl, ⟨heap_alloc_new _ _, H.out⟩, (Below.refl _ w).alloc (Nat.le_refl _) _⟩

set_option maxRecDepth 100000 in
set_option maxHeartbeats 2000000 in
theorem made_pro (f : Flt) (g : Nat) (w : World) (h : Erd w g f) :
    Calls Try.prog 67 #[.pointer (some ⟨g, 0, none⟩)] w fun e w' => e = .returned (.bool true) ∧ w = w' := by
  obtain ⟨c0, _⟩ := h.cells
  have h0 := h.2
  clear h
  go_enter Try.func67, Try.ntmps67
  go_wp2_with fail
  go_ret
  refine ⟨?_, rfl⟩
  show Ending.returned (.bool (f.code != 0)) = _
  rw [bne_iff_ne.2 h0]

set_option maxRecDepth 100000 in
set_option maxHeartbeats 4000000 in
theorem fault_pro (f : Flt) (g : Nat) (w : World) (h : Erd w g f) :
    Calls Try.prog 65 #[.pointer (some ⟨g, 0, none⟩)] w (fun e w' => e = .returned f.val ∧ Below w.heap.size w w') := by
  have H := Lib.hid (h.below ((Below.refl _ w).alloc (Nat.le_refl _) (.cells #[.int .i64 0, .int .i64 0, .int .i64 0, .int .i64 0, .string .empty, .slice none 0 0] 77)))
  obtain ⟨c0, c1, c2, c3, c4⟩ := H.out.cells
  clear h
  go_enter Try.func65, Try.ntmps65
  go_wp2_with fail
  refine (made_pro f g _ H.out).mono ?_
  rintro e w2 ⟨rfl, rfl⟩
  have B0 := Lib.hid ((Below.refl w.heap.size w).alloc (Nat.le_refl _) (.cells #[.int .i64 0, .int .i64 0, .int .i64 0, .int .i64 0, .string .empty, .slice none 0 0] 77))
  have X0 := Lib.hid (heap_alloc_new w (.cells #[.int .i64 0, .int .i64 0, .int .i64 0, .int .i64 0, .string .empty, .slice none 0 0] 77))
  obtain ⟨w1, hw, hv⟩ : ∃ w1, w.alloc (.cells #[.int .i64 0, .int .i64 0, .int .i64 0, .int .i64 0, .string .empty, .slice none 0 0] 77) = w1 ∧ w.alloc (.cells #[.int .i64 0, .int .i64 0, .int .i64 0, .int .i64 0, .string ⟨#[]⟩, .slice none 0 0] 77) = w1 := ⟨_, rfl, rfl⟩
  obtain ⟨g1, hg⟩ : ∃ g1, w.heap.size = g1 := ⟨_, rfl⟩
  simp only [hw] at c0 c1 c2 c3 c4 B0 X0
  try simp only [hw]
  try simp only [hv]
  rw [hg] at B0 X0 ⊢
  have z0 : w1.cell? ⟨g1, 0, none⟩ = some (.int .i64 0) := by rw [cell_of_row w1 g1 _ _ _ _ X0.out]; rfl
  have fz0 := frozen_of_row w1 g1 0 _ _ X0.out
  have z1 : w1.cell? ⟨g1, 1, none⟩ = some (.int .i64 0) := by rw [cell_of_row w1 g1 _ _ _ _ X0.out]; rfl
  have fz1 := frozen_of_row w1 g1 1 _ _ X0.out
  have z2 : w1.cell? ⟨g1, 2, none⟩ = some (.int .i64 0) := by rw [cell_of_row w1 g1 _ _ _ _ X0.out]; rfl
  have fz2 := frozen_of_row w1 g1 2 _ _ X0.out
  have z3 : w1.cell? ⟨g1, 3, none⟩ = some (.int .i64 0) := by rw [cell_of_row w1 g1 _ _ _ _ X0.out]; rfl
  have fz3 := frozen_of_row w1 g1 3 _ _ X0.out
  have z4 : w1.cell? ⟨g1, 4, none⟩ = some (.string .empty) := by rw [cell_of_row w1 g1 _ _ _ _ X0.out]; rfl
  have fz4 := frozen_of_row w1 g1 4 _ _ X0.out
  have z5 : w1.cell? ⟨g1, 5, none⟩ = some (.slice none 0 0) := by rw [cell_of_row w1 g1 _ _ _ _ X0.out]; rfl
  have fz5 := frozen_of_row w1 g1 5 _ _ X0.out
  clear H hw hv
  go_wp2_with fail
  go_region
  all_goals go_wp2_with fail
  have B1 := B0.out
  have X1 := told6 w1 g1 (.int .i64 0) (.int .i64 0) (.int .i64 0) (.int .i64 0) (.string .empty) (.slice none 0 0) (.int .i64 f.code) (.int .i64 f.source) (.int .i64 f.line) (.int .i64 f.col) (.string f.word) (.slice none 0 0) _ X0.out
  have X2 := set6_below w1 g1 (.int .i64 f.code) (.int .i64 f.source) (.int .i64 f.line) (.int .i64 f.col) (.string f.word) (.slice none 0 0) (B := w.heap.size) (by omega) (w := w) (by rw [hg]; exact B1)
  generalize (((((w1.setCell ⟨g1, 0, none⟩ (.int .i64 f.code)).setCell ⟨g1, 1, none⟩ (.int .i64 f.source)).setCell ⟨g1, 2, none⟩ (.int .i64 f.line)).setCell ⟨g1, 3, none⟩ (.int .i64 f.col)).setCell ⟨g1, 4, none⟩ (.string f.word)).setCell ⟨g1, 5, none⟩ (.slice none 0 0) = w6 at X1 X2 ⊢
  have y0 : w6.drew.cell? ⟨g1, 0, none⟩ = some (.int .i64 f.code) := by rw [cell_of_row w6.drew g1 _ _ _ _ X1]; rfl
  have y1 : w6.drew.cell? ⟨g1, 1, none⟩ = some (.int .i64 f.source) := by rw [cell_of_row w6.drew g1 _ _ _ _ X1]; rfl
  have y2 : w6.drew.cell? ⟨g1, 2, none⟩ = some (.int .i64 f.line) := by rw [cell_of_row w6.drew g1 _ _ _ _ X1]; rfl
  have y3 : w6.drew.cell? ⟨g1, 3, none⟩ = some (.int .i64 f.col) := by rw [cell_of_row w6.drew g1 _ _ _ _ X1]; rfl
  have y4 : w6.drew.cell? ⟨g1, 4, none⟩ = some (.string f.word) := by rw [cell_of_row w6.drew g1 _ _ _ _ X1]; rfl
  have y5 : w6.drew.cell? ⟨g1, 5, none⟩ = some (.slice none 0 0) := by rw [cell_of_row w6.drew g1 _ _ _ _ X1]; rfl
  exact bodyPost_ret (v := f.val) (by simp [results, Try.f65, go_sem, y0, y1, y2, y3, y4, y5, Flt.val]) rfl ⟨rfl, X2.drew⟩
end Go.Proofs.Ytjnnkelbedmccaa
