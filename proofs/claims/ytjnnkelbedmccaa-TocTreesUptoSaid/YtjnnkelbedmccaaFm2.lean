/- A fault that was made, told by a way without layers and sources. -/
import Derived.Test.YtjnnkelbedmccaaFm1
import Derived.Lib.LazyBuf
namespace Go.Proofs.Ytjnnkelbedmccaa
open Go.RowKit
set_option linter.unusedVariables false

/-- A way without layers and sources. -/
def noWay : Value := .agg #[.bool false, .int .i64 0, .slice none 0 0]

set_option maxRecDepth 100000 in
set_option maxHeartbeats 2000000 in
theorem clone_nil (w : World) :
    Calls Try.prog 66 #[.slice none 0 0] w fun e w' => e = .returned (.slice none 0 0) ∧ w = w' := by
  go_enter Try.func66, Try.ntmps66
  go_wp2_with fail
  rw [run_eql_slice_nil w 75 110 none 0 0 Try.underlying75]
  simp only [Result.andThen]
  rw [Oper.upon_value]
  go_wp2_with fail
  go_ret
  exact ⟨rfl, rfl⟩

set_option maxRecDepth 100000 in
set_option maxHeartbeats 2000000 in
theorem told_pro (f : Flt) (g : Nat) (w : World) (h : Erd w g f) :
    Calls Try.prog 59 #[noWay, .pointer (some ⟨g, 0, none⟩)] w (fun e w' => e = .returned f.val ∧ Below w.heap.size w w') := by
  unfold noWay
  have H := Lib.hid h
  clear h
  go_enter Try.func59, Try.ntmps59
  go_wp2_with fail
  obtain ⟨w1, hw⟩ : ∃ w1, (w.alloc (.cells #[.bool false, .int .i64 0, .slice none 0 0] 101)).alloc (.cells #[.int .i64 0, .int .i64 0, .int .i64 0, .int .i64 0, .string ⟨#[]⟩, .slice none 0 0] 77) = w1 := ⟨_, rfl⟩
  have XA : w1.heap[w.heap.size]? = some (.cells #[.bool false, .int .i64 0, .slice none 0 0] 101 (0, 0)) := by
    rw [← hw, Below.heap_alloc _ _ _ (by simp)]; exact heap_alloc_new _ _
  have XB : w1.heap[w.heap.size + 1]? = some (.cells #[.int .i64 0, .int .i64 0, .int .i64 0, .int .i64 0, .string ⟨#[]⟩, .slice none 0 0] 77 (0, 0)) := by
    rw [← hw]
    have h := heap_alloc_new (w.alloc (.cells #[.bool false, .int .i64 0, .slice none 0 0] 101)) (.cells #[.int .i64 0, .int .i64 0, .int .i64 0, .int .i64 0, .string ⟨#[]⟩, .slice none 0 0] 77)
    simpa using h
  have B1 : Below w.heap.size w w1 := by
    rw [← hw]; exact ((Below.refl _ w).alloc (Nat.le_refl _) _).alloc (by simp) _
  have S1 : w1.heap.size = w.heap.size + 2 := by rw [← hw]; simp
  rw [hw]
  have H1 := Lib.hid (H.out.below B1)
  obtain ⟨ga, hga⟩ : ∃ ga, w.heap.size = ga := ⟨_, rfl⟩
  rw [hga] at XA XB B1 S1 ⊢
  clear hw H
  refine (fault_pro f g _ H1.out).mono ?_
  rintro e w2 ⟨rfl, hb⟩
  have XA2 := (hb.block ga (by omega)).trans XA
  have XB2 := (hb.block (ga + 1) (by omega)).trans XB
  have B2 := Lib.hid (B1.trans (hb.mono (by omega)))
  have S2 : ga + 2 ≤ w2.heap.size := by have := hb.size; omega
  clear XA XB B1 S1 H1 hb
  have XA3 := (Below.heap_alloc w2 (.cells #[.int .i64 f.code, .int .i64 f.source, .int .i64 f.line, .int .i64 f.col, .string f.word, .slice none 0 0] 77) ga (by omega)).trans XA2
  have XB3 := (Below.heap_alloc w2 (.cells #[.int .i64 f.code, .int .i64 f.source, .int .i64 f.line, .int .i64 f.col, .string f.word, .slice none 0 0] 77) (ga + 1) (by omega)).trans XB2
  have XC3 := heap_alloc_new w2 (.cells #[.int .i64 f.code, .int .i64 f.source, .int .i64 f.line, .int .i64 f.col, .string f.word, .slice none 0 0] 77)
  have B3 := Lib.hid (B2.out.alloc (by omega) (.cells #[.int .i64 f.code, .int .i64 f.source, .int .i64 f.line, .int .i64 f.col, .string f.word, .slice none 0 0] 77))
  have a0 : (w2.alloc (.cells #[.int .i64 f.code, .int .i64 f.source, .int .i64 f.line, .int .i64 f.col, .string f.word, .slice none 0 0] 77)).cell? ⟨ga, 0, none⟩ = some (.bool false) := by rw [cell_of_row _ ga _ _ _ _ XA3]; rfl
  have a2 : (w2.alloc (.cells #[.int .i64 f.code, .int .i64 f.source, .int .i64 f.line, .int .i64 f.col, .string f.word, .slice none 0 0] 77)).cell? ⟨ga, 2, none⟩ = some (.slice none 0 0) := by rw [cell_of_row _ ga _ _ _ _ XA3]; rfl
  have XBH := Lib.hid XB3
  have XCH := Lib.hid XC3
  clear XA2 XB2 XA3 XB3 XC3 B2
  unfold Flt.val
  go_wp2_with fail
  refine (clone_nil _).mono ?_
  rintro e w3 ⟨rfl, rfl⟩
  obtain ⟨w3, hw3⟩ : ∃ w3, w2.alloc (.cells #[.int .i64 f.code, .int .i64 f.source, .int .i64 f.line, .int .i64 f.col, .string f.word, .slice none 0 0] 77) = w3 := ⟨_, rfl⟩
  obtain ⟨gc, hgc⟩ : ∃ gc, w2.heap.size = gc := ⟨_, rfl⟩
  rw [hw3] at XBH XCH B3 ⊢
  rw [hgc] at XCH S2 ⊢
  have d5 : w3.cell? ⟨gc, 5, none⟩ = some (.slice none 0 0) := by rw [cell_of_row w3 gc _ _ _ _ XCH.out]; rfl
  have df := frozen_of_row w3 gc 5 _ _ XCH.out
  have XC4 := heap_setCell_same w3 gc 5 _ _ (.slice none 0 0) XCH.out
  have XB4 := (Below.heap_setCell w3 ⟨gc, 5, none⟩ (.slice none 0 0) (ga + 1) (by simp; omega)).trans XBH.out
  have B4 := Lib.hid (B3.out.setCell (p := ⟨gc, 5, none⟩) (by simp; omega) (.slice none 0 0))
  have c0 : (w3.setCell ⟨gc, 5, none⟩ (.slice none 0 0)).cell? ⟨gc, 0, none⟩ = some (.int .i64 f.code) := by rw [cell_of_row _ gc _ _ _ _ XC4]; rfl
  have c1 : (w3.setCell ⟨gc, 5, none⟩ (.slice none 0 0)).cell? ⟨gc, 1, none⟩ = some (.int .i64 f.source) := by rw [cell_of_row _ gc _ _ _ _ XC4]; rfl
  have c2 : (w3.setCell ⟨gc, 5, none⟩ (.slice none 0 0)).cell? ⟨gc, 2, none⟩ = some (.int .i64 f.line) := by rw [cell_of_row _ gc _ _ _ _ XC4]; rfl
  have c3 : (w3.setCell ⟨gc, 5, none⟩ (.slice none 0 0)).cell? ⟨gc, 3, none⟩ = some (.int .i64 f.col) := by rw [cell_of_row _ gc _ _ _ _ XC4]; rfl
  have c4 : (w3.setCell ⟨gc, 5, none⟩ (.slice none 0 0)).cell? ⟨gc, 4, none⟩ = some (.string f.word) := by rw [cell_of_row _ gc _ _ _ _ XC4]; rfl
  have c5 : (w3.setCell ⟨gc, 5, none⟩ (.slice none 0 0)).cell? ⟨gc, 5, none⟩ = some (.slice none 0 0) := by rw [cell_of_row _ gc _ _ _ _ XC4]; rfl
  have b0 : (w3.setCell ⟨gc, 5, none⟩ (.slice none 0 0)).cell? ⟨ga + 1, 0, none⟩ = some (.int .i64 0) := by rw [cell_of_row _ (ga + 1) _ _ _ _ XB4]; rfl
  have bf0 := frozen_of_row _ (ga + 1) 0 _ _ XB4
  have b1 : (w3.setCell ⟨gc, 5, none⟩ (.slice none 0 0)).cell? ⟨ga + 1, 1, none⟩ = some (.int .i64 0) := by rw [cell_of_row _ (ga + 1) _ _ _ _ XB4]; rfl
  have bf1 := frozen_of_row _ (ga + 1) 1 _ _ XB4
  have b2 : (w3.setCell ⟨gc, 5, none⟩ (.slice none 0 0)).cell? ⟨ga + 1, 2, none⟩ = some (.int .i64 0) := by rw [cell_of_row _ (ga + 1) _ _ _ _ XB4]; rfl
  have bf2 := frozen_of_row _ (ga + 1) 2 _ _ XB4
  have b3 : (w3.setCell ⟨gc, 5, none⟩ (.slice none 0 0)).cell? ⟨ga + 1, 3, none⟩ = some (.int .i64 0) := by rw [cell_of_row _ (ga + 1) _ _ _ _ XB4]; rfl
  have bf3 := frozen_of_row _ (ga + 1) 3 _ _ XB4
  have b4 : (w3.setCell ⟨gc, 5, none⟩ (.slice none 0 0)).cell? ⟨ga + 1, 4, none⟩ = some (.string ⟨#[]⟩) := by rw [cell_of_row _ (ga + 1) _ _ _ _ XB4]; rfl
  have bf4 := frozen_of_row _ (ga + 1) 4 _ _ XB4
  have b5 : (w3.setCell ⟨gc, 5, none⟩ (.slice none 0 0)).cell? ⟨ga + 1, 5, none⟩ = some (.slice none 0 0) := by rw [cell_of_row _ (ga + 1) _ _ _ _ XB4]; rfl
  have bf5 := frozen_of_row _ (ga + 1) 5 _ _ XB4
  have X1 := Lib.hid (told6 _ (ga + 1) (.int .i64 0) (.int .i64 0) (.int .i64 0) (.int .i64 0) (.string ⟨#[]⟩) (.slice none 0 0) (.int .i64 f.code) (.int .i64 f.source) (.int .i64 f.line) (.int .i64 f.col) (.string f.word) (.slice none 0 0) _ XB4)
  have X2 := Lib.hid (set6_below _ (ga + 1) (.int .i64 f.code) (.int .i64 f.source) (.int .i64 f.line) (.int .i64 f.col) (.string f.word) (.slice none 0 0) (B := ga) (by omega) B4.out)
  clear XBH XCH XC4 XB4 hw3 hgc a0 a2
  go_wp2_with fail
  have Y1 := X1.out
  have Y2 := X2.out
  generalize ((((((w3.setCell ⟨gc, 5, none⟩ (.slice none 0 0)).setCell ⟨ga + 1, 0, none⟩ (.int .i64 f.code)).setCell ⟨ga + 1, 1, none⟩ (.int .i64 f.source)).setCell ⟨ga + 1, 2, none⟩ (.int .i64 f.line)).setCell ⟨ga + 1, 3, none⟩ (.int .i64 f.col)).setCell ⟨ga + 1, 4, none⟩ (.string f.word)).setCell ⟨ga + 1, 5, none⟩ (.slice none 0 0) = w6 at Y1 Y2 ⊢
  clear X1 X2 B4 c0 c1 c2 c3 c4 c5 b0 b1 b2 b3 b4 b5 bf0 bf1 bf2 bf3 bf4 bf5 d5 df B3
  rw [← hga] at Y2
  generalize ga + 1 = gb at Y1 ⊢
  have y0 : w6.cell? ⟨gb, 0, none⟩ = some (.int .i64 f.code) := by rw [cell_of_row w6 gb _ _ _ _ Y1]; rfl
  have y1 : w6.cell? ⟨gb, 1, none⟩ = some (.int .i64 f.source) := by rw [cell_of_row w6 gb _ _ _ _ Y1]; rfl
  have y2 : w6.cell? ⟨gb, 2, none⟩ = some (.int .i64 f.line) := by rw [cell_of_row w6 gb _ _ _ _ Y1]; rfl
  have y3 : w6.cell? ⟨gb, 3, none⟩ = some (.int .i64 f.col) := by rw [cell_of_row w6 gb _ _ _ _ Y1]; rfl
  have y4 : w6.cell? ⟨gb, 4, none⟩ = some (.string f.word) := by rw [cell_of_row w6 gb _ _ _ _ Y1]; rfl
  have y5 : w6.cell? ⟨gb, 5, none⟩ = some (.slice none 0 0) := by rw [cell_of_row w6 gb _ _ _ _ Y1]; rfl
  exact bodyPost_ret (v := f.val) (by simp [results, Try.f59, go_sem, y0, y1, y2, y3, y4, y5, Flt.val]) rfl ⟨rfl, Y2⟩
end Go.Proofs.Ytjnnkelbedmccaa
