/- The law's told; the chapter's first examples. -/
import Derived.Test.YtmceiehnfmgioaaGreatDoorLxi
import Derived.Test.YtmceiehnfmgioaaGreatDoorEsc
import Derived.Test.YtmceiehnfmgioaaGreatDoorFl5
namespace Go.Proofs.YtmceiehnfmgioaaGreatDoor
open Go.RowKit
set_option linter.unusedVariables false

def wrV (x : Wr) : Value := .agg #[.int .i64 x.code, .int .i64 x.line, .int .i64 x.col, .string (bs x.word)]
set_option maxRecDepth 100000 in
set_option maxHeartbeats 4000000 in
theorem told_nil (w : World) : Calls Tryz.prog 17 #[.nilIface, .agg #[.int .i64 0, .int .i64 0, .int .i64 0, .string ⟨#[]⟩]] w (Says (.bool true) w) := by
  have HB := Lib.hid ((Below.refl _ w).alloc (Nat.le_refl _) (.cells #[.int .i64 0, .int .i64 0, .int .i64 0, .string ⟨#[]⟩] 28))
  go_enter Tryz.func17, Tryz.ntmps17
  go_wp2_with fail
  go_ret
  exact ⟨rfl, HB.out⟩
set_option maxRecDepth 100000 in
set_option maxHeartbeats 8000000 in
theorem told_law (x : Wr) (g : Nat) (w : World) (he : Erd w g ⟨x.code, 0, x.line, x.col, bs x.word⟩) (hx : x.code ≠ 0) : Calls Tryz.prog 17 #[errAt g, wrV x] w (Says (.bool true) w) := by
  unfold wrV
  have hA := (Below.refl w.heap.size w).alloc (Nat.le_refl _) (.cells #[.int .i64 x.code, .int .i64 x.line, .int .i64 x.col, .string (bs x.word)] 28)
  have hbx := heap_alloc_new w (.cells #[.int .i64 x.code, .int .i64 x.line, .int .i64 x.col, .string (bs x.word)] 28)
  have HE := Lib.hid (he.below hA)
  have t0 : ((x.code : Int) == 0) = false := by simp; exact hx
  have hz : ¬ x.code = 0 := hx
  obtain ⟨W, hW⟩ : ∃ W, w.alloc (.cells #[.int .i64 x.code, .int .i64 x.line, .int .i64 x.col, .string (bs x.word)] 28) = W := ⟨_, rfl⟩
  rw [hW] at HE hbx hA
  have HA := Lib.hid hA
  have HBX := Lib.hid hbx
  have HW := Lib.hid hW
  have HT := Lib.hid (toldof_pro g ⟨x.code, 0, x.line, x.col, bs x.word⟩ W HE.out)
  clear he hx hA hbx hW
  unfold errAt at HT ⊢
  go_enter Tryz.func17, Tryz.ntmps17
  go_wp2_with fail
  rw [HW.out]
  refine HT.out.mono ?_
  rintro e w1 ⟨rfl, hb⟩
  have HB1 := Lib.hid (HA.out.trans (hb.mono HA.out.size))
  have HE1 := Lib.hid (HE.out.below hb)
  have hx1 := (hb.block w.heap.size (lt_heap HBX.out)).trans HBX.out
  have hW1 := Lib.hid ((HB1.out).alloc HB1.out.size (.cells #[.int .i64 x.code, .int .i64 0, .int .i64 x.line, .int .i64 x.col, .string (bs x.word), .slice none 0 0] 55))
  have hx2 := (Below.heap_alloc w1 (.cells #[.int .i64 x.code, .int .i64 0, .int .i64 x.line, .int .i64 x.col, .string (bs x.word), .slice none 0 0] 55) w.heap.size (lt_heap hx1)).trans hx1
  have HE2 := Lib.hid (HE1.out.below ((Below.refl w1.heap.size w1).alloc (Nat.le_refl _) (.cells #[.int .i64 x.code, .int .i64 0, .int .i64 x.line, .int .i64 x.col, .string (bs x.word), .slice none 0 0] 55)))
  have hf2 := heap_alloc_new w1 (.cells #[.int .i64 x.code, .int .i64 0, .int .i64 x.line, .int .i64 x.col, .string (bs x.word), .slice none 0 0] 55)
  have a0 : (w1.alloc (.cells #[.int .i64 x.code, .int .i64 0, .int .i64 x.line, .int .i64 x.col, .string (bs x.word), .slice none 0 0] 55)).cell? ⟨w.heap.size, 0, none⟩ = some (.int .i64 x.code) := by rw [cell_of_row _ _ _ _ _ _ hx2]; rfl
  have a1 : (w1.alloc (.cells #[.int .i64 x.code, .int .i64 0, .int .i64 x.line, .int .i64 x.col, .string (bs x.word), .slice none 0 0] 55)).cell? ⟨w.heap.size, 1, none⟩ = some (.int .i64 x.line) := by rw [cell_of_row _ _ _ _ _ _ hx2]; rfl
  have a2 : (w1.alloc (.cells #[.int .i64 x.code, .int .i64 0, .int .i64 x.line, .int .i64 x.col, .string (bs x.word), .slice none 0 0] 55)).cell? ⟨w.heap.size, 2, none⟩ = some (.int .i64 x.col) := by rw [cell_of_row _ _ _ _ _ _ hx2]; rfl
  have a3 : (w1.alloc (.cells #[.int .i64 x.code, .int .i64 0, .int .i64 x.line, .int .i64 x.col, .string (bs x.word), .slice none 0 0] 55)).cell? ⟨w.heap.size, 3, none⟩ = some (.string (bs x.word)) := by rw [cell_of_row _ _ _ _ _ _ hx2]; rfl
  unfold Flt.val
  clear hb hx1 hx2 hf2
  go_wp2_with fail
  refine (allof_pro g ⟨x.code, 0, x.line, x.col, bs x.word⟩ _ HE2.out).mono ?_
  rintro e w2 ⟨⟨b, cap, rfl⟩, hb⟩
  have HB2 := Lib.hid (hW1.out.trans (hb.mono (by have := hW1.out.size; exact this)))
  clear hb a0 a1 a2 a3
  go_wp2_with fail
  go_ret
  exact ⟨rfl, HB2.out⟩

def src1 : List UInt8 := [111, 110, 101, 32, 123, 98, 32, 116, 119, 111, 125, 32, 32, 116, 104, 114, 101, 101, 10, 102, 111, 117, 114]
def src2 : List UInt8 := [46, 116, 111, 112, 105, 99, 115, 49]
def toks1 : List Tok := [⟨6, [], [111, 110, 101, 32], 1, 1⟩, ⟨3, [98], [], 1, 5⟩, ⟨6, [], [116, 119, 111], 1, 8⟩, ⟨5, [], [], 1, 11⟩, ⟨6, [], [32, 116, 104, 114, 101, 101, 32, 102, 111, 117, 114], 1, 12⟩]
theorem lex1 : lexM src1 = .ok toks1 := by kernel_rfl
theorem lex2 : lexM src2 = .error ⟨41, 1, 2, [116, 111, 112, 105, 99, 115]⟩ := by kernel_rfl
theorem esc1 : escM [46, 97, 123] = [92, 46, 97, 92, 123] := by kernel_rfl

set_option maxRecDepth 100000 in
set_option maxHeartbeats 8000000 in
theorem awake_law (w : World) (hT : Tabs w) : Calls Tryz.prog 19 #[] w (Says (.bool true) w) := by
  have HT := Lib.hid hT
  have HP1 := Lib.hid (lex_pro src1 w hT)
  clear hT
  go_enter Tryz.func19, Tryz.ntmps19
  go_wp2_with fail
  refine HP1.out.mono ?_
  unfold LexPost
  rw [lex1]
  rintro e w1 ⟨v, rfl, ht, hb⟩
  have HB1 := Lib.hid hb
  have HT1 := Lib.hid ht
  have HP2 := Lib.hid (lex_pro src2 w1 (HT.out.at hb))
  clear ht hb
  go_wp2_with fail
  refine HP2.out.mono ?_
  unfold LexPost
  rw [lex2]
  rintro e w2 ⟨ge, rfl, he, hx, hb⟩
  obtain ⟨B, ho⟩ := HT1.out.below hb
  have HB2 := Lib.hid (HB1.out.trans (hb.mono HB1.out.size))
  have HE := Lib.hid he
  have HTD := Lib.hid (told_law ⟨41, 1, 2, [116, 111, 112, 105, 99, 115]⟩ ge w2 he (by decide))
  obtain ⟨gt, ct, rfl, _⟩ := ho.form (by decide)
  have r02 : w2.cell? ⟨gt, 2, none⟩ = some (.string ⟨#[111, 110, 101, 32]⟩) := (World.ownsRow.cellAt ho 2 (by decide)).trans rfl
  have r11 : w2.cell? ⟨gt, 6, none⟩ = some (.string ⟨#[98]⟩) := (World.ownsRow.cellAt ho 6 (by decide)).trans rfl
  have r14 : w2.cell? ⟨gt, 9, none⟩ = some (.int .i64 5) := (World.ownsRow.cellAt ho 9 (by decide)).trans rfl
  have r42 : w2.cell? ⟨gt, 22, none⟩ = some (.string ⟨#[32, 116, 104, 114, 101, 101, 32, 102, 111, 117, 114]⟩) := (World.ownsRow.cellAt ho 22 (by decide)).trans rfl
  have r40 : w2.cell? ⟨gt, 20, none⟩ = some (.int .i64 6) := (World.ownsRow.cellAt ho 20 (by decide)).trans rfl
  clear ho hb he hx
  unfold errAt wrV at HTD
  unfold errAt
  go_wp2_with fail
  refine HTD.out.mono ?_
  rintro e w3 ⟨rfl, hb⟩
  have HB3 := Lib.hid (HB2.out.trans (hb.mono HB2.out.size))
  clear hb r02 r11 r14 r42 r40
  go_wp2_with fail
  refine (escape_pro [46, 97, 123] w3 (by decide)).mono ?_
  rw [esc1]
  rintro e w4 ⟨rfl, hb⟩
  have HB4 := Lib.hid (HB3.out.trans (hb.mono HB3.out.size))
  have y0 := toList_bs [92, 46, 97, 92, 123]
  clear hb
  go_wp2_with fail
  go_ret
  exact ⟨rfl, HB4.out⟩
end Go.Proofs.YtmceiehnfmgioaaGreatDoor
