/- The program's faults: what New makes; a fault that was made, told without a way. A fault that was made, told by a way without layers and sources. The program's iterator over the faults of an error that is one fault that was made: one round. Told of an error that is one fault that was made. -/
import Derived.Test.YtjgcbobalmmjkaaGreatDoorProg
import Derived.WalkKit
import Derived.Lib.Hide
import Derived.IntWalk
import Derived.BigRegion
import Derived.Lib.LazyBuf
import Derived.RangeFuncNested
import Derived.RangeFuncBound
import Derived.RangeFuncCalls
import Derived.RangeFuncLeaves
import Derived.RangeFuncBox
import Derived.Shelf.Abstract
import Derived.Shelf.RegionOpen
import Derived.OwnWalkIn
import Derived.TacticsInMore
import Derived.LoopNIn
import Derived.LoopIn
namespace Go.Proofs.YtjgcbobalmmjkaaGreatDoor
section
open Go.RowKit
set_option linter.unusedVariables false

/-- What is told of a fault. -/
structure Flt where
  code : Int
  source : Int
  line : Int
  col : Int
  word : ByteArray
/-- The fault lies in block g. -/
def Erd (w : World) (g : Nat) (f : Flt) : Prop :=
  w.heap[g]? = some (.cells #[.int .i64 f.code, .int .i64 f.source, .int .i64 f.line, .int .i64 f.col, .string f.word] 164 (0, 0)) ∧ f.code ≠ 0
theorem Erd.below {w w' : World} {g : Nat} {f : Flt} (h : Erd w g f) (hb : Below w.heap.size w w') : Erd w' g f :=
  ⟨(hb.block g (Array.getElem?_eq_some_iff.1 h.1).1).trans h.1, h.2⟩
theorem Erd.cells {w : World} {g : Nat} {f : Flt} (h : Erd w g f) : w.cell? ⟨g, 0, none⟩ = some (.int .i64 f.code) ∧ w.cell? ⟨g, 1, none⟩ = some (.int .i64 f.source) ∧ w.cell? ⟨g, 2, none⟩ = some (.int .i64 f.line) ∧ w.cell? ⟨g, 3, none⟩ = some (.int .i64 f.col) ∧ w.cell? ⟨g, 4, none⟩ = some (.string f.word) := by
  refine ⟨?_, ?_, ?_, ?_, ?_⟩ <;> (rw [cell_of_row w g _ _ _ _ h.1]; rfl)
def Flt.val (f : Flt) : Value := .agg #[.int .i64 f.code, .int .i64 f.source, .int .i64 f.line, .int .i64 f.col, .string f.word, .slice none 0 0]

theorem told6 (w : World) (g : Nat) (a0 a1 a2 a3 a4 a5 v0 v1 v2 v3 v4 v5 : Value) (t : TypeId) (h : w.heap[g]? = some (.cells #[a0, a1, a2, a3, a4, a5] t (0, 0))) :
    ((((((w.setCell ⟨g, 0, none⟩ v0).setCell ⟨g, 1, none⟩ v1).setCell ⟨g, 2, none⟩ v2).setCell ⟨g, 3, none⟩ v3).setCell ⟨g, 4, none⟩ v4).setCell ⟨g, 5, none⟩ v5).heap[g]? = some (.cells #[v0, v1, v2, v3, v4, v5] t (0, 0)) :=
  heap_setCell_same _ g 5 _ t v5 (heap_setCell_same _ g 4 _ t v4 (heap_setCell_same _ g 3 _ t v3 (heap_setCell_same _ g 2 _ t v2 (heap_setCell_same _ g 1 _ t v1 (heap_setCell_same _ g 0 _ t v0 h)))))
theorem set6_below (w1 : World) (g : Nat) (v0 v1 v2 v3 v4 v5 : Value) {B : Nat} (hB : B ≤ g) {w : World} (h : Below B w w1) :
    Below B w ((((((w1.setCell ⟨g, 0, none⟩ v0).setCell ⟨g, 1, none⟩ v1).setCell ⟨g, 2, none⟩ v2).setCell ⟨g, 3, none⟩ v3).setCell ⟨g, 4, none⟩ v4).setCell ⟨g, 5, none⟩ v5) :=
  (((((h.setCell (p := ⟨g, 0, none⟩) hB _).setCell (p := ⟨g, 1, none⟩) hB _).setCell (p := ⟨g, 2, none⟩) hB _).setCell (p := ⟨g, 3, none⟩) hB _).setCell (p := ⟨g, 4, none⟩) hB _).setCell (p := ⟨g, 5, none⟩) hB _

set_option maxRecDepth 100000 in
set_option maxHeartbeats 2000000 in
theorem fnew_pro (f : Flt) (w : World) (h : f.code ≠ 0) :
    Calls Tryz.prog 42 #[.int .i64 f.code, .int .i64 f.source, .int .i64 f.line, .int .i64 f.col, .string f.word] w fun e w' => e = .returned (.iface 98 (.pointer (some ⟨w.heap.size, 0, none⟩))) ∧ Erd w' w.heap.size f ∧ Below w.heap.size w w' := by
  have H := Lib.hid h
  go_enter Tryz.func42, Tryz.ntmps42
  go_wp2_with fail
  go_ret
  exact ⟨rfl, ⟨heap_alloc_new _ _, H.out⟩, (Below.refl _ w).alloc (Nat.le_refl _) _⟩

set_option maxRecDepth 100000 in
set_option maxHeartbeats 2000000 in
theorem made_pro (f : Flt) (g : Nat) (w : World) (h : Erd w g f) :
    Calls Tryz.prog 114 #[.pointer (some ⟨g, 0, none⟩)] w fun e w' => e = .returned (.bool true) ∧ w = w' := by
  obtain ⟨c0, _⟩ := h.cells
  have h0 := h.2
  clear h
  go_enter Tryz.func114, Tryz.ntmps114
  go_wp2_with fail
  go_ret
  refine ⟨?_, rfl⟩
  show Ending.returned (.bool (f.code != 0)) = _
  rw [bne_iff_ne.2 h0]

set_option maxRecDepth 100000 in
set_option maxHeartbeats 4000000 in
theorem fault_pro (f : Flt) (g : Nat) (w : World) (h : Erd w g f) :
    Calls Tryz.prog 84 #[.pointer (some ⟨g, 0, none⟩)] w (fun e w' => e = .returned f.val ∧ Below w.heap.size w w') := by
  have H := Lib.hid (h.below ((Below.refl _ w).alloc (Nat.le_refl _) (.cells #[.int .i64 0, .int .i64 0, .int .i64 0, .int .i64 0, .string .empty, .slice none 0 0] 36)))
  obtain ⟨c0, c1, c2, c3, c4⟩ := H.out.cells
  clear h
  go_enter Tryz.func84, Tryz.ntmps84
  go_wp2_with fail
  refine (made_pro f g _ H.out).mono ?_
  rintro e w2 ⟨rfl, rfl⟩
  have B0 := Lib.hid ((Below.refl w.heap.size w).alloc (Nat.le_refl _) (.cells #[.int .i64 0, .int .i64 0, .int .i64 0, .int .i64 0, .string .empty, .slice none 0 0] 36))
  have X0 := Lib.hid (heap_alloc_new w (.cells #[.int .i64 0, .int .i64 0, .int .i64 0, .int .i64 0, .string .empty, .slice none 0 0] 36))
  obtain ⟨w1, hw, hv⟩ : ∃ w1, w.alloc (.cells #[.int .i64 0, .int .i64 0, .int .i64 0, .int .i64 0, .string .empty, .slice none 0 0] 36) = w1 ∧ w.alloc (.cells #[.int .i64 0, .int .i64 0, .int .i64 0, .int .i64 0, .string ⟨#[]⟩, .slice none 0 0] 36) = w1 := ⟨_, rfl, rfl⟩
  obtain ⟨g1, hg⟩ : ∃ g1, w.heap.size = g1 := ⟨_, rfl⟩
  simp only [hw] at c0 c1 c2 c3 c4 B0 X0
  try simp only [hw]
  try simp only [hv]
  rw [hg] at B0 X0 ⊢
  have z0 : w1.cell? ⟨g1, 0, none⟩ = some (.int .i64 0) := by rw [cell_of_row w1 g1 _ _ _ _ X0.out]; rfl
  have fz0 := frozen_of_row w1 g1 0 _ _ X0.out
  have z1 : w1.cell? ⟨g1, 1, none⟩ = some (.int .i64 0) := by rw [cell_of_row w1 g1 _ _ _ _ X0.out]; rfl
  have fz1 := frozen_of_row w1 g1 1 _ _ X0.out
  have z2 : w1.cell? ⟨g1, 2, none⟩ = some (.int .i64 0) := by rw [cell_of_row w1 g1 _ _ _ _ X0.out]; rfl
  have fz2 := frozen_of_row w1 g1 2 _ _ X0.out
  have z3 : w1.cell? ⟨g1, 3, none⟩ = some (.int .i64 0) := by rw [cell_of_row w1 g1 _ _ _ _ X0.out]; rfl
  have fz3 := frozen_of_row w1 g1 3 _ _ X0.out
  have z4 : w1.cell? ⟨g1, 4, none⟩ = some (.string .empty) := by rw [cell_of_row w1 g1 _ _ _ _ X0.out]; rfl
  have fz4 := frozen_of_row w1 g1 4 _ _ X0.out
  have z5 : w1.cell? ⟨g1, 5, none⟩ = some (.slice none 0 0) := by rw [cell_of_row w1 g1 _ _ _ _ X0.out]; rfl
  have fz5 := frozen_of_row w1 g1 5 _ _ X0.out
  clear H hw hv
  go_wp2_with fail
  go_region
  all_goals go_wp2_with fail
  have B1 := B0.out
  have X1 := told6 w1 g1 (.int .i64 0) (.int .i64 0) (.int .i64 0) (.int .i64 0) (.string .empty) (.slice none 0 0) (.int .i64 f.code) (.int .i64 f.source) (.int .i64 f.line) (.int .i64 f.col) (.string f.word) (.slice none 0 0) _ X0.out
  have X2 := set6_below w1 g1 (.int .i64 f.code) (.int .i64 f.source) (.int .i64 f.line) (.int .i64 f.col) (.string f.word) (.slice none 0 0) (B := w.heap.size) (by omega) (w := w) (by rw [hg]; exact B1)
  generalize (((((w1.setCell ⟨g1, 0, none⟩ (.int .i64 f.code)).setCell ⟨g1, 1, none⟩ (.int .i64 f.source)).setCell ⟨g1, 2, none⟩ (.int .i64 f.line)).setCell ⟨g1, 3, none⟩ (.int .i64 f.col)).setCell ⟨g1, 4, none⟩ (.string f.word)).setCell ⟨g1, 5, none⟩ (.slice none 0 0) = w6 at X1 X2 ⊢
  have y0 : w6.drew.cell? ⟨g1, 0, none⟩ = some (.int .i64 f.code) := by rw [cell_of_row w6.drew g1 _ _ _ _ X1]; rfl
  have y1 : w6.drew.cell? ⟨g1, 1, none⟩ = some (.int .i64 f.source) := by rw [cell_of_row w6.drew g1 _ _ _ _ X1]; rfl
  have y2 : w6.drew.cell? ⟨g1, 2, none⟩ = some (.int .i64 f.line) := by rw [cell_of_row w6.drew g1 _ _ _ _ X1]; rfl
  have y3 : w6.drew.cell? ⟨g1, 3, none⟩ = some (.int .i64 f.col) := by rw [cell_of_row w6.drew g1 _ _ _ _ X1]; rfl
  have y4 : w6.drew.cell? ⟨g1, 4, none⟩ = some (.string f.word) := by rw [cell_of_row w6.drew g1 _ _ _ _ X1]; rfl
  have y5 : w6.drew.cell? ⟨g1, 5, none⟩ = some (.slice none 0 0) := by rw [cell_of_row w6.drew g1 _ _ _ _ X1]; rfl
  exact bodyPost_ret (v := f.val) (by simp [results, Tryz.f84, go_sem, y0, y1, y2, y3, y4, y5, Flt.val]) rfl ⟨rfl, X2.drew⟩
end
section
open Go.RowKit
set_option linter.unusedVariables false

/-- A way without layers and sources. -/
def noWay : Value := .agg #[.bool false, .int .i64 0, .slice none 0 0]

set_option maxRecDepth 100000 in
set_option maxHeartbeats 2000000 in
theorem clone_nil (w : World) :
    Calls Tryz.prog 85 #[.slice none 0 0] w fun e w' => e = .returned (.slice none 0 0) ∧ w = w' := by
  go_enter Tryz.func85, Tryz.ntmps85
  go_wp2_with fail
  rw [run_eql_slice_nil w 34 94 none 0 0 Tryz.underlying34]
  simp only [Result.andThen]
  rw [Oper.upon_value]
  go_wp2_with fail
  go_ret
  exact ⟨rfl, rfl⟩

set_option maxRecDepth 100000 in
set_option maxHeartbeats 2000000 in
theorem told_pro (f : Flt) (g : Nat) (w : World) (h : Erd w g f) :
    Calls Tryz.prog 46 #[noWay, .pointer (some ⟨g, 0, none⟩)] w (fun e w' => e = .returned f.val ∧ Below w.heap.size w w') := by
  unfold noWay
  have H := Lib.hid h
  clear h
  go_enter Tryz.func46, Tryz.ntmps46
  go_wp2_with fail
  obtain ⟨w1, hw⟩ : ∃ w1, (w.alloc (.cells #[.bool false, .int .i64 0, .slice none 0 0] 100)).alloc (.cells #[.int .i64 0, .int .i64 0, .int .i64 0, .int .i64 0, .string ⟨#[]⟩, .slice none 0 0] 36) = w1 := ⟨_, rfl⟩
  have XA : w1.heap[w.heap.size]? = some (.cells #[.bool false, .int .i64 0, .slice none 0 0] 100 (0, 0)) := by
    rw [← hw, Below.heap_alloc _ _ _ (by simp)]; exact heap_alloc_new _ _
  have XB : w1.heap[w.heap.size + 1]? = some (.cells #[.int .i64 0, .int .i64 0, .int .i64 0, .int .i64 0, .string ⟨#[]⟩, .slice none 0 0] 36 (0, 0)) := by
    rw [← hw]
    have h := heap_alloc_new (w.alloc (.cells #[.bool false, .int .i64 0, .slice none 0 0] 100)) (.cells #[.int .i64 0, .int .i64 0, .int .i64 0, .int .i64 0, .string ⟨#[]⟩, .slice none 0 0] 36)
    simpa using h
  have B1 : Below w.heap.size w w1 := by
    rw [← hw]; exact ((Below.refl _ w).alloc (Nat.le_refl _) _).alloc (by simp) _
  have S1 : w1.heap.size = w.heap.size + 2 := by rw [← hw]; simp
  rw [hw]
  have H1 := Lib.hid (H.out.below B1)
  obtain ⟨ga, hga⟩ : ∃ ga, w.heap.size = ga := ⟨_, rfl⟩
  rw [hga] at XA XB B1 S1 ⊢
  clear hw H
  refine (fault_pro f g _ H1.out).mono ?_
  rintro e w2 ⟨rfl, hb⟩
  have XA2 := (hb.block ga (by omega)).trans XA
  have XB2 := (hb.block (ga + 1) (by omega)).trans XB
  have B2 := Lib.hid (B1.trans (hb.mono (by omega)))
  have S2 : ga + 2 ≤ w2.heap.size := by have := hb.size; omega
  clear XA XB B1 S1 H1 hb
  have XA3 := (Below.heap_alloc w2 (.cells #[.int .i64 f.code, .int .i64 f.source, .int .i64 f.line, .int .i64 f.col, .string f.word, .slice none 0 0] 36) ga (by omega)).trans XA2
  have XB3 := (Below.heap_alloc w2 (.cells #[.int .i64 f.code, .int .i64 f.source, .int .i64 f.line, .int .i64 f.col, .string f.word, .slice none 0 0] 36) (ga + 1) (by omega)).trans XB2
  have XC3 := heap_alloc_new w2 (.cells #[.int .i64 f.code, .int .i64 f.source, .int .i64 f.line, .int .i64 f.col, .string f.word, .slice none 0 0] 36)
  have B3 := Lib.hid (B2.out.alloc (by omega) (.cells #[.int .i64 f.code, .int .i64 f.source, .int .i64 f.line, .int .i64 f.col, .string f.word, .slice none 0 0] 36))
  have a0 : (w2.alloc (.cells #[.int .i64 f.code, .int .i64 f.source, .int .i64 f.line, .int .i64 f.col, .string f.word, .slice none 0 0] 36)).cell? ⟨ga, 0, none⟩ = some (.bool false) := by rw [cell_of_row _ ga _ _ _ _ XA3]; rfl
  have a2 : (w2.alloc (.cells #[.int .i64 f.code, .int .i64 f.source, .int .i64 f.line, .int .i64 f.col, .string f.word, .slice none 0 0] 36)).cell? ⟨ga, 2, none⟩ = some (.slice none 0 0) := by rw [cell_of_row _ ga _ _ _ _ XA3]; rfl
  have XBH := Lib.hid XB3
  have XCH := Lib.hid XC3
  clear XA2 XB2 XA3 XB3 XC3 B2
  unfold Flt.val
  go_wp2_with fail
  refine (clone_nil _).mono ?_
  rintro e w3 ⟨rfl, rfl⟩
  obtain ⟨w3, hw3⟩ : ∃ w3, w2.alloc (.cells #[.int .i64 f.code, .int .i64 f.source, .int .i64 f.line, .int .i64 f.col, .string f.word, .slice none 0 0] 36) = w3 := ⟨_, rfl⟩
  obtain ⟨gc, hgc⟩ : ∃ gc, w2.heap.size = gc := ⟨_, rfl⟩
  rw [hw3] at XBH XCH B3 ⊢
  rw [hgc] at XCH S2 ⊢
  have d5 : w3.cell? ⟨gc, 5, none⟩ = some (.slice none 0 0) := by rw [cell_of_row w3 gc _ _ _ _ XCH.out]; rfl
  have df := frozen_of_row w3 gc 5 _ _ XCH.out
  have XC4 := heap_setCell_same w3 gc 5 _ _ (.slice none 0 0) XCH.out
  have XB4 := (Below.heap_setCell w3 ⟨gc, 5, none⟩ (.slice none 0 0) (ga + 1) (by simp; omega)).trans XBH.out
  have B4 := Lib.hid (B3.out.setCell (p := ⟨gc, 5, none⟩) (by simp; omega) (.slice none 0 0))
  have c0 : (w3.setCell ⟨gc, 5, none⟩ (.slice none 0 0)).cell? ⟨gc, 0, none⟩ = some (.int .i64 f.code) := by rw [cell_of_row _ gc _ _ _ _ XC4]; rfl
  have c1 : (w3.setCell ⟨gc, 5, none⟩ (.slice none 0 0)).cell? ⟨gc, 1, none⟩ = some (.int .i64 f.source) := by rw [cell_of_row _ gc _ _ _ _ XC4]; rfl
  have c2 : (w3.setCell ⟨gc, 5, none⟩ (.slice none 0 0)).cell? ⟨gc, 2, none⟩ = some (.int .i64 f.line) := by rw [cell_of_row _ gc _ _ _ _ XC4]; rfl
  have c3 : (w3.setCell ⟨gc, 5, none⟩ (.slice none 0 0)).cell? ⟨gc, 3, none⟩ = some (.int .i64 f.col) := by rw [cell_of_row _ gc _ _ _ _ XC4]; rfl
  have c4 : (w3.setCell ⟨gc, 5, none⟩ (.slice none 0 0)).cell? ⟨gc, 4, none⟩ = some (.string f.word) := by rw [cell_of_row _ gc _ _ _ _ XC4]; rfl
  have c5 : (w3.setCell ⟨gc, 5, none⟩ (.slice none 0 0)).cell? ⟨gc, 5, none⟩ = some (.slice none 0 0) := by rw [cell_of_row _ gc _ _ _ _ XC4]; rfl
  have b0 : (w3.setCell ⟨gc, 5, none⟩ (.slice none 0 0)).cell? ⟨ga + 1, 0, none⟩ = some (.int .i64 0) := by rw [cell_of_row _ (ga + 1) _ _ _ _ XB4]; rfl
  have bf0 := frozen_of_row _ (ga + 1) 0 _ _ XB4
  have b1 : (w3.setCell ⟨gc, 5, none⟩ (.slice none 0 0)).cell? ⟨ga + 1, 1, none⟩ = some (.int .i64 0) := by rw [cell_of_row _ (ga + 1) _ _ _ _ XB4]; rfl
  have bf1 := frozen_of_row _ (ga + 1) 1 _ _ XB4
  have b2 : (w3.setCell ⟨gc, 5, none⟩ (.slice none 0 0)).cell? ⟨ga + 1, 2, none⟩ = some (.int .i64 0) := by rw [cell_of_row _ (ga + 1) _ _ _ _ XB4]; rfl
  have bf2 := frozen_of_row _ (ga + 1) 2 _ _ XB4
  have b3 : (w3.setCell ⟨gc, 5, none⟩ (.slice none 0 0)).cell? ⟨ga + 1, 3, none⟩ = some (.int .i64 0) := by rw [cell_of_row _ (ga + 1) _ _ _ _ XB4]; rfl
  have bf3 := frozen_of_row _ (ga + 1) 3 _ _ XB4
  have b4 : (w3.setCell ⟨gc, 5, none⟩ (.slice none 0 0)).cell? ⟨ga + 1, 4, none⟩ = some (.string ⟨#[]⟩) := by rw [cell_of_row _ (ga + 1) _ _ _ _ XB4]; rfl
  have bf4 := frozen_of_row _ (ga + 1) 4 _ _ XB4
  have b5 : (w3.setCell ⟨gc, 5, none⟩ (.slice none 0 0)).cell? ⟨ga + 1, 5, none⟩ = some (.slice none 0 0) := by rw [cell_of_row _ (ga + 1) _ _ _ _ XB4]; rfl
  have bf5 := frozen_of_row _ (ga + 1) 5 _ _ XB4
  have X1 := Lib.hid (told6 _ (ga + 1) (.int .i64 0) (.int .i64 0) (.int .i64 0) (.int .i64 0) (.string ⟨#[]⟩) (.slice none 0 0) (.int .i64 f.code) (.int .i64 f.source) (.int .i64 f.line) (.int .i64 f.col) (.string f.word) (.slice none 0 0) _ XB4)
  have X2 := Lib.hid (set6_below _ (ga + 1) (.int .i64 f.code) (.int .i64 f.source) (.int .i64 f.line) (.int .i64 f.col) (.string f.word) (.slice none 0 0) (B := ga) (by omega) B4.out)
  clear XBH XCH XC4 XB4 hw3 hgc a0 a2
  go_wp2_with fail
  have Y1 := X1.out
  have Y2 := X2.out
  generalize ((((((w3.setCell ⟨gc, 5, none⟩ (.slice none 0 0)).setCell ⟨ga + 1, 0, none⟩ (.int .i64 f.code)).setCell ⟨ga + 1, 1, none⟩ (.int .i64 f.source)).setCell ⟨ga + 1, 2, none⟩ (.int .i64 f.line)).setCell ⟨ga + 1, 3, none⟩ (.int .i64 f.col)).setCell ⟨ga + 1, 4, none⟩ (.string f.word)).setCell ⟨ga + 1, 5, none⟩ (.slice none 0 0) = w6 at Y1 Y2 ⊢
  clear X1 X2 B4 c0 c1 c2 c3 c4 c5 b0 b1 b2 b3 b4 b5 bf0 bf1 bf2 bf3 bf4 bf5 d5 df B3
  rw [← hga] at Y2
  generalize ga + 1 = gb at Y1 ⊢
  have y0 : w6.cell? ⟨gb, 0, none⟩ = some (.int .i64 f.code) := by rw [cell_of_row w6 gb _ _ _ _ Y1]; rfl
  have y1 : w6.cell? ⟨gb, 1, none⟩ = some (.int .i64 f.source) := by rw [cell_of_row w6 gb _ _ _ _ Y1]; rfl
  have y2 : w6.cell? ⟨gb, 2, none⟩ = some (.int .i64 f.line) := by rw [cell_of_row w6 gb _ _ _ _ Y1]; rfl
  have y3 : w6.cell? ⟨gb, 3, none⟩ = some (.int .i64 f.col) := by rw [cell_of_row w6 gb _ _ _ _ Y1]; rfl
  have y4 : w6.cell? ⟨gb, 4, none⟩ = some (.string f.word) := by rw [cell_of_row w6 gb _ _ _ _ Y1]; rfl
  have y5 : w6.cell? ⟨gb, 5, none⟩ = some (.slice none 0 0) := by rw [cell_of_row w6 gb _ _ _ _ Y1]; rfl
  exact bodyPost_ret (v := f.val) (by simp [results, Tryz.f46, go_sem, y0, y1, y2, y3, y4, y5, Flt.val]) rfl ⟨rfl, Y2⟩
end
section
open Go.RowKit Go.Shelf
set_option linter.unusedVariables false

attribute [local go_sem] Oper.semAt_some

/-- The error whose fault lies in block g. -/
def errV (g : Nat) : Value := .iface 98 (.pointer (some ⟨g, 0, none⟩))

theorem assert_own (w : World) (t xT e : TypeId) (v : Value) (h : Tryz.prog.underlying t = some (.pointer e)) : (Instr.typeAssert (.iface t v) xT t true).run Tryz.prog w = .ok (.tuple #[v, .bool true]) w := by
  simp [Instr.typeAssert, run_underlying h]
theorem faults_in (n : Nat) (v : Value) (g : Nat) (w : World) (hv : v = errV g) :
    CallsIn Fence.wide n Tryz.prog 45 #[v] w fun e w' => e = .returned (.func (.func 82) #[] #[.pointer (some ⟨w.heap.size, 0, none⟩)]) ∧ w' = w.alloc (.cells #[errV g] 31) := by
  subst hv
  unfold errV
  refine callsIn_of_wp Tryz.func45 rfl trivial ?_ rfl
  simp only [Tryz.ntmps45, List.size_toArray, List.length_cons, List.length_nil, Nat.reduceAdd, Nat.reduceSub, Array.replicate_succ, Array.replicate_zero, List.push_toArray, List.append_toArray, List.nil_append, List.cons_append]
  gi_wp2
  go_ret
  exact ⟨rfl, rfl⟩

set_option maxRecDepth 100000 in
set_option maxHeartbeats 2000000 in
theorem walk1_in (n l g : Nat) (f : Flt) (R : World → Prop) (Rx : World → Prop) (W : World) (hn : 2 ≤ n) (he : Erd W g f)
    (hY : YieldAt Fence.wide (n - 1) Tryz.prog l #[.pointer (some ⟨g, 0, none⟩), noWay] (W.alloc (.cells #[.bool false, .int .i64 0, .slice none 0 0] 100)) fun e W' => (e = .returned (.bool true) ∧ R W') ∨ (e = .returned (.bool false) ∧ Rx W')) :
    CallsIn Fence.wide n Tryz.prog 83 #[errV g, noWay, .func (.yield l) #[] #[]] W fun e W' => (e = .returned (.bool true) ∧ R W') ∨ (e = .returned (.bool false) ∧ Rx W') := by
  have hfw : Fence.wide.fn 114 := trivial
  have h1n : 1 ≤ n := by omega
  obtain ⟨fn, tmps, assign, body, hy, hR⟩ := hY
  unfold errV noWay
  unfold noWay at hy
  have HM := Lib.hid (made_pro f g _ (he.below ((Below.refl _ W).alloc (Nat.le_refl _) (.cells #[.bool false, .int .i64 0, .slice none 0 0] 100))))
  clear he
  refine callsIn_of_wp Tryz.func83 rfl trivial ?_ rfl
  simp only [Tryz.ntmps83, List.size_toArray, List.length_cons, List.length_nil, Nat.reduceAdd, Nat.reduceSub, Array.replicate_succ, Array.replicate_zero, List.push_toArray, List.append_toArray, List.nil_append, List.cons_append]
  gi_wp2_with (gi_at_call 114; refine (callsIn_wide.2 HM.out).mono ?_; rintro e w' ⟨rfl, rfl⟩)
  rw [assert_own _ 98 _ 164 _ Tryz.underlying98]
  simp only [Result.andThen]
  rw [Oper.uponIn_value]
  gi_wp2_with (gi_at_call 114; refine (callsIn_wide.2 HM.out).mono ?_; rintro e w' ⟨rfl, rfl⟩)
  refine hR.mono ?_
  rintro e W' (⟨rfl, h⟩ | ⟨rfl, h⟩)
  · gi_wp2
    go_ret
    exact .inl ⟨rfl, h⟩
  · gi_wp2
    go_ret
    exact .inr ⟨rfl, h⟩

theorem yield_any (m m' : Nat) {P : Program} {l : Nat} {args : Array Value} {W : World} {R : Ending → World → Prop} (h : YieldAt Fence.wide m P l args W R) : YieldAt Fence.wide m' P l args W R := by
  obtain ⟨fn, tmps, assign, body, hy, hR⟩ := h
  exact ⟨fn, tmps, assign, body, hy, hR.1, fun c cs _ => hR.2 c cs (fun d hd => by cases hd)⟩

set_option maxRecDepth 100000 in
set_option maxHeartbeats 2000000 in
theorem faults1_in (n l B g : Nat) (f : Flt) (J Jx : List Unit → World → Prop)
    (hY : ∀ pre x W1, J pre W1 → pre.length < 1 → YieldAt Fence.wide (n - 1) Tryz.prog l #[.pointer (some ⟨g, 0, none⟩), noWay] W1 fun e W' => (e = .returned (.bool true) ∧ J (pre ++ [x]) W' ∧ True) ∨ (e = .returned (.bool false) ∧ Jx (pre ++ [x]) W'))
    (W : World) (hJ : AbidesFrom W.heap.size J) (hB : W.cell? ⟨B, 0, none⟩ = some (errV g)) (he : Erd W g f) (h0 : J [] W) (hn : 4 ≤ n) :
    CallsIn Fence.wide n Tryz.prog 82 #[.func (.yield l) #[] #[], .pointer (some ⟨B, 0, none⟩)] W fun e W' => (∃ v, e = .returned v) ∧
      ((∃ ys : List Unit, ys = [()] ∧ J ys W') ∨ (∃ pre : List Unit, pre = [()] ∧ Jx pre W')) := by
  have hfw : Fence.wide.fn 83 := trivial
  have h1n : 1 ≤ n := by omega
  have HW := Lib.hid (walk1_in (n - 1) l g f (fun W' => J [()] W') (fun W' => Jx [()] W') W (by omega) he
    (yield_any (n - 1) (n - 1 - 1) ((hY [] () _ (hJ _ _ _ none h0 (World.grownBy_alloc W _ none) (fun r e => by cases e)) (by decide)).mono (fun e W' h => h.imp (fun h => ⟨h.1, h.2.1⟩) id))))
  clear hY hJ h0 he
  unfold errV at hB
  refine callsIn_of_wp Tryz.func82 rfl trivial ?_ rfl
  simp only [Tryz.ntmps82, List.size_toArray, List.length_cons, List.length_nil, Nat.reduceAdd, Nat.reduceSub, Array.replicate_succ, Array.replicate_zero, List.push_toArray, List.append_toArray, List.nil_append, List.cons_append]
  gi_wp2_with (gi_at_call 83; refine HW.out.mono ?_; rintro e w' (⟨rfl, h⟩ | ⟨rfl, h⟩))
  all_goals go_end0
  · exact ⟨⟨_, rfl⟩, .inl ⟨_, rfl, h⟩⟩
  · exact ⟨⟨_, rfl⟩, .inr ⟨_, rfl, h⟩⟩

theorem faults_stops (n : Nat) (hn : 4 ≤ n) (B g : Nat) (f : Flt) (w : World) (hB : w.cell? ⟨B, 0, none⟩ = some (errV g)) (he : Erd w g f) :
    SeqStopsK Fence.wide n Tryz.prog 82 #[.pointer (some ⟨B, 0, none⟩)] (fun _ : Unit => #[.pointer (some ⟨g, 0, none⟩), noWay]) (fun _ _ => True) (fun ys => ys = [()]) (fun pre => pre = [()]) 1 w := fun l J Jx W hW hJ _ hY h0 =>
  faults1_in n l B g f J Jx hY W hJ ((hW.cell (p := ⟨B, 0, none⟩) (World.block_lt_of_cell? w _ hB)).trans hB) (he.below hW) h0 hn
end
section
open Go.RowKit Go.Shelf
set_option linter.unusedVariables false
attribute [local go_sem] Oper.semAt_some

theorem cells_keep {β : Type} (B : Nat) (cs : Array Value) (t : TypeId) : Own (fun (_ : β) W => W.heap[B]? = some (.cells cs t (0, 0))) := by
  intro s X Y row h hg hr
  refine (hg.block B (Array.getElem?_eq_some_iff.1 h).1 (fun e => ?_)).trans h
  obtain ⟨o, ho, hc⟩ := hr B e.symm
  rw [h] at ho; cases ho; cases hc

theorem zero_cells {w : World} {g : Nat} {t : TypeId} (h : w.heap[g]? = some (.cells #[.int .i64 0, .int .i64 0, .int .i64 0, .int .i64 0, .string ⟨#[]⟩, .slice none 0 0] t (0, 0))) : w.cell? ⟨g, 0, none⟩ = some (.int .i64 0) ∧ w.cell? ⟨g, 1, none⟩ = some (.int .i64 0) ∧ w.cell? ⟨g, 2, none⟩ = some (.int .i64 0) ∧ w.cell? ⟨g, 3, none⟩ = some (.int .i64 0) ∧ w.cell? ⟨g, 4, none⟩ = some (.string ⟨#[]⟩) ∧ w.cell? ⟨g, 5, none⟩ = some (.slice none 0 0) := by
  refine ⟨?_, ?_, ?_, ?_, ?_, ?_⟩ <;> (rw [cell_of_row w g _ _ _ _ h]; rfl)

set_option maxRecDepth 100000 in
set_option maxHeartbeats 2000000 in
theorem toldof_in (g : Nat) (f : Flt) (w : World) (he : Erd w g f) :
    CallsIn Fence.wide 8 Tryz.prog 12 #[errV g] w fun e W' => e = .returned f.val ∧ Below w.heap.size w W' := by
  have hfc : Fence.wide.fn 45 := trivial
  have hf1 : Fence.wide.fn 82 := trivial
  have hf2 : Fence.wide.fn 46 := trivial
  unfold errV
  refine callsIn_of_wp_marks Tryz.func12 rfl trivial ?_ rfl
  simp only [Tryz.ntmps12, List.size_toArray, List.length_cons, List.length_nil, Nat.reduceAdd, Nat.reduceSub, Array.replicate_succ, Array.replicate_zero, List.push_toArray, List.append_toArray, List.nil_append, List.cons_append]
  gi_wp2_with (gi_at_call 45; refine (faults_in _ _ g _ rfl).mono ?_; rintro e w' ⟨rfl, rfl⟩)
  obtain ⟨W0, hW0⟩ : ∃ W0, (w.alloc (.cells #[.int .i64 0, .int .i64 0, .int .i64 0, .int .i64 0, .string ⟨#[]⟩, .slice none 0 0] 36)).alloc (.cells #[errV g] 31) = W0 := ⟨_, rfl⟩
  have XR : W0.heap[w.heap.size]? = some (.cells #[.int .i64 0, .int .i64 0, .int .i64 0, .int .i64 0, .string ⟨#[]⟩, .slice none 0 0] 36 (0, 0)) := by
    rw [← hW0, Below.heap_alloc _ _ _ (by simp)]; exact heap_alloc_new _ _
  have XE : W0.cell? ⟨w.heap.size + 1, 0, none⟩ = some (errV g) := by
    have h := (Boxed.new (w.alloc (.cells #[.int .i64 0, .int .i64 0, .int .i64 0, .int .i64 0, .string ⟨#[]⟩, .slice none 0 0] 36)) 31 (errV g)).cell
    rw [World.size_alloc, hW0] at h; exact h
  have hB0 : Below w.heap.size w W0 := by rw [← hW0]; exact ((Below.refl _ w).alloc (Nat.le_refl _) _).alloc (by simp) _
  have hsz : W0.heap.size = w.heap.size + 2 := by rw [← hW0]; simp
  rw [hW0]
  clear hW0
  refine wpIn_rangeFunc_ownH rfl (by omega) (gf := 82) (lb := #[.pointer (some ⟨w.heap.size + 1, 0, none⟩)]) rfl trivial (enters_of Tryz.func82 (by kernel_rfl) rfl)
    (faults_stops (8 - 1) (by omega) (w.heap.size + 1) g f W0 XE (he.below hB0)) (fun _ _ => trivial) (fun _ _ _ _ _ _ _ _ => trivial) (Below.refl _ _) (fun _ => rfl)
    (fun pre W => (pre = [] ∧ W.heap[w.heap.size]? = some (.cells #[.int .i64 0, .int .i64 0, .int .i64 0, .int .i64 0, .string ⟨#[]⟩, .slice none 0 0] 36 (0, 0))) ∧ Below w.heap.size w W)
    (fun c pre W => (c = .ret ∧ W.heap[w.heap.size]? = some (.cells #[.int .i64 f.code, .int .i64 f.source, .int .i64 f.line, .int .i64 f.col, .string f.word, .slice none 0 0] 36 (0, 0))) ∧ Below w.heap.size w W)
    (OwnFrom.and (OwnFrom.and (ownFrom_pure _ _) (Own.from (cells_keep _ _ _) _)) (ownFrom_below (Nat.le_refl _) (by omega)))
    (fun c => OwnFrom.and (OwnFrom.and (ownFrom_pure _ _) (Own.from (cells_keep _ _ _) _)) (ownFrom_below (Nat.le_refl _) (by omega)))
    ⟨⟨rfl, XR⟩, hB0⟩
    (fun x a' W => ∃ Bx, w.heap.size + 1 ≤ Bx ∧ W.heap[Bx]? = some (.cells #[.bool false, .int .i64 0, .slice none 0 0] 100 (0, 0)) ∧ a' = { tmps := #[.iface 98 (.pointer (some ⟨g, 0, none⟩)), undef, .pointer (some ⟨w.heap.size, 0, none⟩), .pointer (some ⟨g, 0, none⟩), .pointer (some ⟨Bx, 0, none⟩), .iface 98 (.pointer (some ⟨g, 0, none⟩)), .bool false, undef, .iface 98 (.pointer (some ⟨g, 0, none⟩)), .func (.func 82) #[] #[.pointer (some ⟨w.heap.size + 1, 0, none⟩)], .pointer (some ⟨g, 0, none⟩), .agg #[.bool false, .int .i64 0, .slice none 0 0], undef, undef, undef, undef, undef], defers := [] })
    (fun x a' _ X Y row hs hg hr => by
      obtain ⟨Bx, h1, h2, h3⟩ := hs
      refine ⟨Bx, h1, (hg.block Bx (Array.getElem?_eq_some_iff.1 h2).1 (fun e => ?_)).trans h2, h3⟩
      obtain ⟨_, o, ho, hc⟩ := hr Bx e.symm
      rw [h2] at ho; cases ho; cases hc)
    ?assign ?body ?done ?stop
  case assign =>
    rintro l pre x W K ⟨⟨hp, hR⟩, hB⟩ hK
    unfold noWay
    gi_wp2
    exact hK _ _ ((KeepsOthers.alloc _ _).from _) trivial ⟨⟨hp, (Below.heap_alloc W _ _ (Array.getElem?_eq_some_iff.1 hR).1).trans hR⟩, hB.alloc hB.size _⟩ ⟨W.heap.size, (Array.getElem?_eq_some_iff.1 hR).1, World.alloc_heap_new W _, rfl⟩
  case body =>
    rintro l pre x a' W hl ⟨r, hr⟩ ⟨⟨hp, hR⟩, hB⟩ ⟨Bx, hBx, bC, rfl⟩ hlt
    have heW := he.below hB
    have ZF := Lib.hid (show ∀ w5, Below W.heap.size W w5 → w5.heap[w.heap.size]? = some (.cells #[.int .i64 0, .int .i64 0, .int .i64 0, .int .i64 0, .string ⟨#[]⟩, .slice none 0 0] 36 (0, 0)) from fun w5 h => (h.block _ (Array.getElem?_eq_some_iff.1 hR).1).trans hR)
    have c0 : W.cell? ⟨Bx, 0, none⟩ = some (.bool false) := by simp [World.cell?, bC]
    have c1 : W.cell? ⟨Bx, 1, none⟩ = some (.int .i64 0) := by simp [World.cell?, bC]
    have c2 : W.cell? ⟨Bx, 2, none⟩ = some (.slice none 0 0) := by simp [World.cell?, bC]
    have TP := Lib.hid (told_pro f g W heW)
    unfold noWay at TP
    gi_wp2_with (first | (refine ⟨trivial, ?_⟩; gi_at_call 46; refine (CallsIn.inRound l (callsIn_wide.2 TP.out)).mono ?_; rintro e w5 ⟨rfl, hb5⟩; have XR5 := ZF.out w5 hb5; obtain ⟨z0, z1, z2, z3, z4, z5⟩ := zero_cells XR5; have fz0 := frozen_of_row w5 w.heap.size 0 _ _ XR5; have fz1 := frozen_of_row w5 w.heap.size 1 _ _ XR5; have fz2 := frozen_of_row w5 w.heap.size 2 _ _ XR5; have fz3 := frozen_of_row w5 w.heap.size 3 _ _ XR5; have fz4 := frozen_of_row w5 w.heap.size 4 _ _ XR5; have fz5 := frozen_of_row w5 w.heap.size 5 _ _ XR5; simp only [Flt.val]) | (gi_at_call 46; refine (CallsIn.inRound l (callsIn_wide.2 TP.out)).mono ?_; rintro e w5 ⟨rfl, hb5⟩; have XR5 := ZF.out w5 hb5; obtain ⟨z0, z1, z2, z3, z4, z5⟩ := zero_cells XR5; have fz0 := frozen_of_row w5 w.heap.size 0 _ _ XR5; have fz1 := frozen_of_row w5 w.heap.size 1 _ _ XR5; have fz2 := frozen_of_row w5 w.heap.size 2 _ _ XR5; have fz3 := frozen_of_row w5 w.heap.size 3 _ _ XR5; have fz4 := frozen_of_row w5 w.heap.size 4 _ _ XR5; have fz5 := frozen_of_row w5 w.heap.size 5 _ _ XR5; simp only [Flt.val]))
    have KF : KeepsFrom W0.heap.size W w5 := ⟨hb5.size, fun k o _ hk _ => (hb5.block k (Array.getElem?_eq_some_iff.1 hk).1).trans hk⟩
    exact ⟨KF.trans ((((((KeepsOthers.setCell _ _ _).trans (KeepsOthers.setCell _ _ _)).trans (KeepsOthers.setCell _ _ _)).trans (KeepsOthers.setCell _ _ _)).trans (KeepsOthers.setCell _ _ _)).trans (KeepsOthers.setCell _ _ _) |>.from _), ⟨rfl, told6 w5 w.heap.size (.int .i64 0) (.int .i64 0) (.int .i64 0) (.int .i64 0) (.string ⟨#[]⟩) (.slice none 0 0) (.int .i64 f.code) (.int .i64 f.source) (.int .i64 f.line) (.int .i64 f.col) (.string f.word) (.slice none 0 0) _ XR5⟩, set6_below w5 w.heap.size (.int .i64 f.code) (.int .i64 f.source) (.int .i64 f.line) (.int .i64 f.col) (.string f.word) (.slice none 0 0) (B := w.heap.size) (Nat.le_refl _) (hB.trans (hb5.mono hB.size))⟩
  case done =>
    rintro D xs W hD rfl ⟨⟨hp, _⟩, _⟩ hK
    cases hp
  case stop =>
    rintro D c pre W hD hS ⟨⟨rfl, hR⟩, hB⟩ hK
    gi_wp2
    refine ⟨by simp, .inl ⟨_, _, rfl, run_takeDeferred hK, ?_⟩⟩
    have hR2 := cells_keep w.heap.size #[.int .i64 f.code, .int .i64 f.source, .int .i64 f.line, .int .i64 f.col, .string f.word, .slice none 0 0] 36 () W _ (some D) hR (grownBy_putObj' W D (.deferred none)) (fun r e => by cases e; exact ⟨_, hK, rfl⟩)
    have y0 : (W.putObj D (.deferred none)).cell? ⟨w.heap.size, 0, none⟩ = some (.int .i64 f.code) := by rw [cell_of_row _ w.heap.size _ _ _ _ hR2]; rfl
    have y1 : (W.putObj D (.deferred none)).cell? ⟨w.heap.size, 1, none⟩ = some (.int .i64 f.source) := by rw [cell_of_row _ w.heap.size _ _ _ _ hR2]; rfl
    have y2 : (W.putObj D (.deferred none)).cell? ⟨w.heap.size, 2, none⟩ = some (.int .i64 f.line) := by rw [cell_of_row _ w.heap.size _ _ _ _ hR2]; rfl
    have y3 : (W.putObj D (.deferred none)).cell? ⟨w.heap.size, 3, none⟩ = some (.int .i64 f.col) := by rw [cell_of_row _ w.heap.size _ _ _ _ hR2]; rfl
    have y4 : (W.putObj D (.deferred none)).cell? ⟨w.heap.size, 4, none⟩ = some (.string f.word) := by rw [cell_of_row _ w.heap.size _ _ _ _ hR2]; rfl
    have y5 : (W.putObj D (.deferred none)).cell? ⟨w.heap.size, 5, none⟩ = some (.slice none 0 0) := by rw [cell_of_row _ w.heap.size _ _ _ _ hR2]; rfl
    have hB2 := hB.trans (belowK_b (w := w) (Nat.le_refl _) W D _ (.deferred none) (by omega) hK rfl rfl)
    generalize W.putObj D (.deferred none) = W2 at hR2 hB2 y0 y1 y2 y3 y4 y5 ⊢
    refine ⟨f.val, ?_, rfl, hB2⟩
    simp [results, Tryz.f12, go_sem, y0, y1, y2, y3, y4, y5, Flt.val]
theorem toldof_pro (g : Nat) (f : Flt) (w : World) (he : Erd w g f) :
    Calls Tryz.prog 12 #[errV g] w fun e W' => e = .returned f.val ∧ Below w.heap.size w W' :=
  callsIn_wide.1 (toldof_in g f w he)
end
end Go.Proofs.YtjgcbobalmmjkaaGreatDoor
