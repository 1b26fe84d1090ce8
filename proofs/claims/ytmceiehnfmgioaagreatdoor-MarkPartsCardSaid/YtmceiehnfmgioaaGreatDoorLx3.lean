/- The program's put and within of the lexer. -/
import Derived.Test.YtmceiehnfmgioaaGreatDoorLx2
namespace Go.Proofs.YtmceiehnfmgioaaGreatDoor
open Go.RowKit
set_option linter.unusedVariables false

/-- The token in box b. -/
def Box5 (b : Nat) (a0 a1 a2 a3 a4 : Value) (w : World) : Prop := w.heap[b]? = some (.cells #[a0, a1, a2, a3, a4] 40 (0, 0))
theorem box_all {w : World} {b : Nat} {a0 a1 a2 a3 a4 : Value} (h : Box5 b a0 a1 a2 a3 a4 w) : Box5 b a0 a1 a2 a3 a4 w ∧ w.cell? ⟨b, 0, none⟩ = some a0 ∧ w.cell? ⟨b, 1, none⟩ = some a1 ∧ w.cell? ⟨b, 2, none⟩ = some a2 ∧ w.cell? ⟨b, 3, none⟩ = some a3 ∧ w.cell? ⟨b, 4, none⟩ = some a4 := by
  refine ⟨h, ?_, ?_, ?_, ?_, ?_⟩ <;> (rw [cell_of_row w b _ _ _ _ h]; rfl)
theorem box_alloc {w : World} {b : Nat} {a0 a1 a2 a3 a4 : Value} (h : Box5 b a0 a1 a2 a3 a4 w) (o : Obj) : Box5 b a0 a1 a2 a3 a4 (w.alloc o) := (Below.heap_alloc _ _ _ (lt_heap h)).trans h
theorem box_drew {w : World} {b : Nat} {a0 a1 a2 a3 a4 : Value} (h : Box5 b a0 a1 a2 a3 a4 w) : Box5 b a0 a1 a2 a3 a4 w.drew := h
theorem box_set {w : World} {b g k : Nat} {a0 a1 a2 a3 a4 : Value} (h : Box5 b a0 a1 a2 a3 a4 w) (hg : g ≠ b) (u : Value) : Box5 b a0 a1 a2 a3 a4 (w.setCell ⟨g, k, none⟩ u) := (Below.heap_setCell w ⟨g, k, none⟩ u b (fun e => hg e.symm)).trans h
theorem box_kept {w w2 : World} {B g b n : Nat} {m : Mk} {vt vo vr : Value} {o : Obj} {a0 a1 a2 a3 a4 : Value} (h : Lx w B g n m vt vo vr) (hb : Box5 b a0 a1 a2 a3 a4 w) (ha : Apart g b vt vo) (hg : (w.alloc o).grownBy w2 vt.ownBlock) : Box5 b a0 a1 a2 a3 a4 w2 :=
  (hg.block b (lt_heap (box_alloc hb o)) (fun e => ha.t e.symm)).trans (box_alloc hb o)

theorem endRun_len (m : Mk) : m.endRun.out.length ≤ m.out.length + 1 := by
  unfold Mk.endRun
  split <;> simp
set_option maxRecDepth 100000 in
set_option maxHeartbeats 4000000 in
theorem put_pro (w : World) (B g n : Nat) (m : Mk) (k : Nat) (name text : List UInt8) (l0 c0 : Int) (col : Nat) (vt vo vr : Value) (h : Lx w B g n m vt vo vr) (hl : m.out.length ≤ 4000000) :
    Calls Tryz.prog 136 #[.pointer (some ⟨g, 0, none⟩), .agg #[.int .i64 k, .string (bs name), .string (bs text), .int .i64 l0, .int .i64 c0], .int .i64 col] w (Did B g n (m.put k name text (n, col)) vt vo w) := by
  obtain ⟨i0, hi0, hz0, hz1, hz2⟩ := info_parts infoTok
  have HL0 := Lib.hid hl
  have H1 := Lib.hid (h.alloc (.cells #[.int .i64 k, .string (bs name), .string (bs text), .int .i64 l0, .int .i64 c0] 40))
  have X1 := Lib.hid (heap_alloc_new w (.cells #[.int .i64 k, .string (bs name), .string (bs text), .int .i64 l0, .int .i64 c0] 40))
  have AP1 := Lib.hid h.apart
  have SZ := Lib.hid h.size
  have BA := Lib.hid ((Below.refl B w).alloc h.size (.cells #[.int .i64 k, .string (bs name), .string (bs text), .int .i64 l0, .int .i64 c0] 40))
  clear h hl
  go_enter Tryz.func136, Tryz.ntmps136
  go_wp2_with fail
  refine (endRun_pro _ B g n m vt vo vr H1.out (by have := HL0.out; omega)).mono ?_
  rintro e w1 ⟨rfl, hb, vt1, vo1, vr1, h1, hk⟩
  obtain ⟨x1, ap⟩ := hk.box X1.out (noU8 (by decide)) AP1.out
  have AP := Lib.hid ap
  have hk0 := hk.alloc0
  obtain ⟨b, eb⟩ : ∃ b, w.heap.size = b := ⟨_, rfl⟩
  have EB := Lib.hid eb
  rw [eb] at x1 AP ⊢
  have xa := box_all x1
  obtain ⟨_, x_0, x_1, x_2, x_3, x_4⟩ := xa
  have c1 := h1.cells.2.1
  have y3 := frozen_of_row w1 b 3 _ _ x1
  have y4 := frozen_of_row w1 b 4 _ _ x1
  have hb1 := heap_setCell_same w1 b 3 _ _ (.int .i64 n) x1
  have HB2 := Lib.hid (show Box5 b (.int .i64 k) (.string (bs name)) (.string (bs text)) (.int .i64 n) (.int .i64 col) ((w1.setCell ⟨b, 3, none⟩ (.int .i64 n)).setCell ⟨b, 4, none⟩ (.int .i64 col)) from heap_setCell_same _ b 4 _ _ (.int .i64 col) hb1)
  have HX := Lib.hid ((h1.setB (k := 3) (u := .int .i64 n) x1 (by decide) AP.out).setB (k := 4) (u := .int .i64 col) hb1 (by decide) AP.out)
  have KX := Lib.hid ((hk0.setB (k := 3) (u := .int .i64 n) (by omega : w.heap.size ≤ b)).setB (k := 4) (u := .int .i64 col) (by omega : w.heap.size ≤ b))
  have hBb : B ≤ b := by have := SZ.out; omega
  have BX := Lib.hid (((BA.out.trans hb).setCell (p := ⟨b, 3, none⟩) hBb (.int .i64 n)).setCell (p := ⟨b, 4, none⟩) hBb (.int .i64 col))
  clear hb h1 hk hk0 x1 ap hb1 eb hBb
  go_wp2_with fail
  obtain ⟨W2, eW⟩ : ∃ W2, (w1.setCell ⟨b, 3, none⟩ (.int .i64 n)).setCell ⟨b, 4, none⟩ (.int .i64 col) = W2 := ⟨_, rfl⟩
  rw [eW] at HB2 HX KX BX
  have L1 := Lib.hid (show m.endRun.out.length + 1 ≤ maxLen by have := HL0.out; have := endRun_len m; unfold maxLen; omega)
  have L2 := Lib.hid (show (m.endRun.out.length + 1) * 56 ≤ 140737488355328 by have := HL0.out; have := endRun_len m; omega)
  have HD := Lib.hid HX.out.drew
  have XB := Lib.hid (show Box5 b (.int .i64 k) (.string (bs name)) (.string (bs text)) (.int .i64 n) (.int .i64 col) W2.drew from HB2.out)
  have SB := Lib.hid HX.out.size
  have BW := Lib.hid BX.out.drew
  have KW := Lib.hid (show Kept3 g vt vo vt1 vo1 w W2.drew from KX.out)
  clear x_0 x_1 x_2 x_3 x_4 c1 y3 y4
  have c0 := HX.out.cells.1
  have cA := (HX.out.alloc (.cells #[.int .i64 k, .string (bs name), .string (bs text), .int .i64 n, .int .i64 col] 40)).cells.1
  refine wp_region_held_drew (S := fun w' => Box5 b (.int .i64 k) (.string (bs name)) (.string (bs text)) (.int .i64 n) (.int .i64 col) w' ∧ w'.cell? ⟨b, 0, none⟩ = some (.int .i64 k) ∧ w'.cell? ⟨b, 1, none⟩ = some (.string (bs name)) ∧ w'.cell? ⟨b, 2, none⟩ = some (.string (bs text)) ∧ w'.cell? ⟨b, 3, none⟩ = some (.int .i64 n) ∧ w'.cell? ⟨b, 4, none⟩ = some (.int .i64 col)) (by kernel_rfl) ?_ (fun hHeld => ?_)
  · simp only [eW]
    exact box_all XB.out
  simp only [eW] at hHeld ⊢
  refine wpAnyH_take (i := 0) (v := .pointer (some ⟨g, 0, none⟩)) rfl (by kernel_rfl) (by kernel_rfl) (by kernel_rfl) (fun _ _ _ h => h) (.inl ⟨by rfl, fun w' hS => by obtain ⟨_, h0, h1, h2, h3, h4⟩ := hS; go_simp⟩) hHeld ?_
  refine wpAnyH_take (i := 1) (v := .pointer (some ⟨g, 0, none⟩)) rfl (by kernel_rfl) (by kernel_rfl) (by kernel_rfl) (fun _ _ _ h => h) (.inl ⟨by rfl, fun w' hS => by obtain ⟨_, h0, h1, h2, h3, h4⟩ := hS; go_simp⟩) hHeld ?_
  refine wpAnyH_take (i := 2) (v := .pointer (some ⟨g, 0, none⟩)) rfl (by kernel_rfl) (by kernel_rfl) (by kernel_rfl) (fun _ _ _ h => h) (.inl ⟨by rfl, fun w' hS => by obtain ⟨_, h0, h1, h2, h3, h4⟩ := hS; go_simp⟩) hHeld ?_
  refine wpAnyH_take (i := 3) (v := .pointer (some ⟨g, 0, none⟩)) rfl (by kernel_rfl) (by kernel_rfl) (by kernel_rfl) (fun _ _ _ h => h) (.inl ⟨by rfl, fun w' hS => by obtain ⟨_, h0, h1, h2, h3, h4⟩ := hS; go_simp⟩) hHeld ?_
  refine wpAnyH_take (i := 5) (v := .agg #[.int .i64 k, .string (bs name), .string (bs text), .int .i64 n, .int .i64 col]) rfl (by kernel_rfl) (by kernel_rfl) (by kernel_rfl) (fun _ _ _ h => h) (.inl ⟨by rfl, fun w' hS => by obtain ⟨_, h0, h1, h2, h3, h4⟩ := hS; go_simp⟩) hHeld ?_
  refine wpAnyH_all (rs := [4, 6]) (by kernel_rfl) (by simp) ?_
  intro i hi
  rcases (by simpa using hi : i = 4 ∨ i = 6) with rfl | rfl
  · clear hi
    refine op_via rfl (by rfl) (fun K hK => ?_)
    go_simp
    refine hK _ _ ⟨box_all XB.out, ?_⟩
    clear hK K
    refine wpAnyH_all (rs := [6]) (by kernel_rfl) (by simp) ?_
    intro i hi
    obtain rfl : i = 6 := by simpa using hi
    refine op_via rfl (by rfl) (fun K hK => ?_)
    go_simp
    refine hK _ _ ⟨box_all (box_alloc XB.out _), ?_⟩
    clear hK K
    refine wpAnyH_all (rs := [7]) (by kernel_rfl) (by simp) ?_
    intro i hi
    obtain rfl : i = 7 := by simpa using hi
    refine op_via rfl (by rfl) (fun K hK => ?_)
    refine wp_append_lies _ (.tmp 19) (.tmp 21) 22 rfl B 40 i0 _ 5 56 Tryz.underlying22 hi0 hz0 hz1 hz2 rfl (by decide) vt1 m.endRun.out.length (tokRows m.endRun.out) (by simp [Act.eval]) (HD.out.toks.alloc _) ⟨W2.heap.size, 0, none⟩ 1 1 (tokRow ⟨k, name, text, n, col⟩) (by simp [Act.eval]) rfl (cells_new _ _ _) (tokRow_one _) (by decide) L1.out L2.out (by simp; have := SB.out; omega) _ rfl ?_
    intro g' cap w3 hown' hgrow hat _
    obtain ⟨hb2, hbl, hlx, hk3, hr3⟩ := HD.out.tok_put hgrow hown' hat
    obtain ⟨d0, _, _, _, _, _, _, _, _, eF⟩ := lex9 hb2
    have e0 := eF 0
    have BL := Lib.hid hbl
    have LX := Lib.hid hlx
    have K3 := Lib.hid hk3
    have X3 := Lib.hid (box_kept HD.out XB.out AP.out hgrow)
    clear hown' hgrow hat hb2 hbl hlx hk3 hr3 eF
    refine hK _ _ ⟨box_all X3.out, ?_⟩
    clear hK K
    refine wpAnyH_all (rs := [8]) (by kernel_rfl) (by simp) ?_
    intro i hi
    obtain rfl : i = 8 := by simpa using hi
    refine op_via rfl (by rfl) (fun K hK => ?_)
    go_simp
    refine hK _ _ ⟨box_all X3.out, ?_⟩
    clear hK K
    refine wpAnyH_all (rs := [9]) (by kernel_rfl) (by simp) ?_
    intro i hi
    obtain rfl : i = 9 := by simpa using hi
    refine op_via rfl (by rfl) (fun K hK => ?_)
    go_simp
    refine hK _ _ ⟨box_all X3.out, ?_⟩
    clear hK K
    refine wpAnyH_all (rs := [10]) (by kernel_rfl) (by simp) ?_
    intro i hi
    obtain rfl : i = 10 := by simpa using hi
    refine op_via rfl (by rfl) (fun K hK => ?_)
    go_simp
    refine hK _ _ ⟨box_all (box_set X3.out AP.out.g _), ?_⟩
    clear hK K
    refine wpAnyH_done (by kernel_rfl) ?_ _
    go_end0
    refine ⟨rfl, ?_⟩
    exact ⟨BW.out.trans BL.out, _, _, _, LX.out, KW.out.trans K3.out⟩
  · clear hi
    refine op_via rfl (by rfl) (fun K hK => ?_)
    go_simp
    refine hK _ _ ⟨box_all (box_alloc XB.out _), ?_⟩
    clear hK K
    refine wpAnyH_all (rs := [4]) (by kernel_rfl) (by simp) ?_
    intro i hi
    obtain rfl : i = 4 := by simpa using hi
    refine op_via rfl (by rfl) (fun K hK => ?_)
    go_simp
    refine hK _ _ ⟨box_all (box_alloc XB.out _), ?_⟩
    clear hK K
    refine wpAnyH_all (rs := [7]) (by kernel_rfl) (by simp) ?_
    intro i hi
    obtain rfl : i = 7 := by simpa using hi
    refine op_via rfl (by rfl) (fun K hK => ?_)
    refine wp_append_lies _ (.tmp 19) (.tmp 21) 22 rfl B 40 i0 _ 5 56 Tryz.underlying22 hi0 hz0 hz1 hz2 rfl (by decide) vt1 m.endRun.out.length (tokRows m.endRun.out) (by simp [Act.eval]) (HD.out.toks.alloc _) ⟨W2.heap.size, 0, none⟩ 1 1 (tokRow ⟨k, name, text, n, col⟩) (by simp [Act.eval]) rfl (cells_new _ _ _) (tokRow_one _) (by decide) L1.out L2.out (by simp; have := SB.out; omega) _ rfl ?_
    intro g' cap w3 hown' hgrow hat _
    obtain ⟨hb2, hbl, hlx, hk3, hr3⟩ := HD.out.tok_put hgrow hown' hat
    obtain ⟨d0, _, _, _, _, _, _, _, _, eF⟩ := lex9 hb2
    have e0 := eF 0
    have BL := Lib.hid hbl
    have LX := Lib.hid hlx
    have K3 := Lib.hid hk3
    have X3 := Lib.hid (box_kept HD.out XB.out AP.out hgrow)
    clear hown' hgrow hat hb2 hbl hlx hk3 hr3 eF
    refine hK _ _ ⟨box_all X3.out, ?_⟩
    clear hK K
    refine wpAnyH_all (rs := [8]) (by kernel_rfl) (by simp) ?_
    intro i hi
    obtain rfl : i = 8 := by simpa using hi
    refine op_via rfl (by rfl) (fun K hK => ?_)
    go_simp
    refine hK _ _ ⟨box_all X3.out, ?_⟩
    clear hK K
    refine wpAnyH_all (rs := [9]) (by kernel_rfl) (by simp) ?_
    intro i hi
    obtain rfl : i = 9 := by simpa using hi
    refine op_via rfl (by rfl) (fun K hK => ?_)
    go_simp
    refine hK _ _ ⟨box_all X3.out, ?_⟩
    clear hK K
    refine wpAnyH_all (rs := [10]) (by kernel_rfl) (by simp) ?_
    intro i hi
    obtain rfl : i = 10 := by simpa using hi
    refine op_via rfl (by rfl) (fun K hK => ?_)
    go_simp
    refine hK _ _ ⟨box_all (box_set X3.out AP.out.g _), ?_⟩
    clear hK K
    refine wpAnyH_done (by kernel_rfl) ?_ _
    go_end0
    refine ⟨rfl, ?_⟩
    exact ⟨BW.out.trans BL.out, _, _, _, LX.out, KW.out.trans K3.out⟩
end Go.Proofs.YtmceiehnfmgioaaGreatDoor
