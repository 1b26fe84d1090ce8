/- The chapter's first examples: awake. -/
import Derived.Test.YtceanagnkcejgaaGreatDoorWri
import Derived.Test.YtceanagnkcejgaaGreatDoorNst
namespace Go.Proofs.YtceanagnkcejgaaGreatDoor
open Go.RowKit
set_option linter.unusedVariables false

theorem fit_base : Fit baseL := by
  intro s hs
  unfold baseL at hs
  simp only [List.mem_cons, List.mem_nil_iff, or_false] at hs
  rcases hs with rfl | rfl | rfl | rfl | rfl | rfl <;> exact ⟨by decide, by decide, by unfold In64; decide, by unfold In64; decide, by unfold In64; decide⟩
def warnT : List UInt8 := [32, 119, 97, 114, 110, 58, 98, 32, 32, 99, 111, 108, 111, 114, 32, 49, 32, 43, 117, 110, 100, 101, 114, 32, 45, 98, 111, 108, 100, 32]
def warnW : List UInt8 := [119, 97, 114, 110, 58, 98, 32, 43, 117, 110, 100, 101, 114, 32, 45, 98, 111, 108, 100, 32, 99, 111, 108, 111, 114, 32, 49]
def warnS : Sty := ⟨[119, 97, 114, 110], [98], ⟨4, 1, 1⟩⟩
theorem ex1 : wholeM baseL [104] = (⟨5, 0, -1⟩, 0) := by kernel_rfl
theorem ex2 : nestM baseL [[98], [105]] = (⟨3, 7⟩, 0, 0) := by kernel_rfl
theorem ex3 : parseM warnT = (warnS, 0) := by kernel_rfl
theorem ex4 : writeM warnS = (warnW, 0) := by kernel_rfl
theorem fit_warn : FitS warnS := ⟨by decide, by decide, by unfold In64 warnS; decide, by unfold In64 warnS; decide, by unfold In64 warnS; decide⟩

theorem RdS.made (w : World) (xs : List (List UInt8)) (t : TypeId) (hl : xs.length ≤ maxLen) : RdS (w.alloc (.cells (xs.map fun x => Value.string (bs x)).toArray t)) (.slice (some ⟨w.heap.size, 0, none⟩) xs.length xs.length) xs := by
  refine ⟨_, _, rfl, Nat.le_refl _, hl, fun j hj => ⟨w.heap.size, 0, rfl, ?_⟩⟩
  rw [Nat.zero_add, cell_of_row _ _ _ _ _ _ (heap_alloc_new w _)]
  simp [hj]

set_option maxRecDepth 100000 in
set_option maxHeartbeats 8000000 in
theorem awake_law (w : World) (hT : Tabs w) : Calls Tryz.prog 10 #[] w (Says (.bool true) w) := by
  have HT := Lib.hid hT
  clear hT
  go_enter Tryz.func10, Tryz.ntmps10
  go_wp2_with fail
  refine (base_ref w).mono ?_
  rintro e w1 ⟨v1, rfl, ho1, hb1⟩
  have HB1 := Lib.hid hb1
  have HT1 := Lib.hid (HT.out.at hb1)
  have hs1 := Sh.own ho1
  have H1 := Lib.hid (Whole_pro baseL [104] v1 w1 hs1 fit_base)
  rw [ex1] at H1
  clear ho1 hb1 hs1
  go_wp2_with fail
  refine H1.out.mono ?_
  rintro e w2 ⟨rfl, hb⟩
  have HB2 := Lib.hid (HB1.out.trans (hb.mono HB1.out.size))
  have HT2 := Lib.hid (HT1.out.at hb)
  clear hb
  unfold chgE chgVal
  have HA2 := Lib.hid (HB2.out.alloc HB2.out.size (.cells #[.int .i64 5, .int .i64 0, .int .i64 (-1)] 27))
  have HX2 := Lib.hid (heap_alloc_new w2 (.cells #[.int .i64 5, .int .i64 0, .int .i64 (-1)] 27))
  go_wp2_with fail
  refine (base_ref _).mono ?_
  rintro e w3 ⟨v3, rfl, ho3, hb3⟩
  have HX3 := Lib.hid ((hb3.block w2.heap.size (by simp)).trans HX2.out)
  have HB3 := Lib.hid (HA2.out.trans (hb3.mono HA2.out.size))
  have HT3 := Lib.hid (HT.out.at HB3.out)
  have hs3 := Sh.own ho3
  have HS3 := Lib.hid hs3
  clear ho3 hb3 hs3
  go_wp2_with fail
  have hA3 := (Below.refl _ w3).alloc (Nat.le_refl _) (.cells #[.string ⟨#[98]⟩, .string ⟨#[105]⟩] 9)
  have HN := Lib.hid (Nest_pro baseL [[98], [105]] v3 _ _ (HS3.out.below hA3) fit_base (RdS.made w3 [[98], [105]] 9 (by unfold maxLen; decide)))
  rw [ex2] at HN
  have HA3 := Lib.hid (HB3.out.alloc HB3.out.size (.cells #[.string ⟨#[98]⟩, .string ⟨#[105]⟩] 9))
  have HX3' := Lib.hid ((hA3.block w2.heap.size (Array.getElem?_eq_some_iff.1 HX3.out).1).trans HX3.out)
  clear hA3
  refine HN.out.mono ?_
  rintro e w4 ⟨rfl, hb⟩
  have HB4 := Lib.hid (HA3.out.trans (hb.mono HA3.out.size))
  have HX4 := Lib.hid ((hb.block w2.heap.size (Array.getElem?_eq_some_iff.1 HX3'.out).1).trans HX3'.out)
  clear hb
  unfold lkE lkVal
  have HA4 := Lib.hid (HB4.out.alloc HB4.out.size (.cells #[.int .i64 3, .int .i64 7] 46))
  have HY4 := Lib.hid (heap_alloc_new w4 (.cells #[.int .i64 3, .int .i64 7] 46))
  have HX5 := Lib.hid ((Below.heap_alloc w4 (.cells #[.int .i64 3, .int .i64 7] 46) w2.heap.size (Array.getElem?_eq_some_iff.1 HX4.out).1).trans HX4.out)
  have HP := Lib.hid (Parse_pro warnT _ (HT.out.at HA4.out) (by decide))
  rw [ex3] at HP
  go_wp2_with fail
  refine HP.out.mono ?_
  rintro e w5 ⟨rfl, hb⟩
  have HB5 := Lib.hid (HA4.out.trans (hb.mono HA4.out.size))
  have HX6 := Lib.hid ((hb.block w2.heap.size (Array.getElem?_eq_some_iff.1 HX5.out).1).trans HX5.out)
  have HY6 := Lib.hid ((hb.block w4.heap.size (Array.getElem?_eq_some_iff.1 HY4.out).1).trans HY4.out)
  clear hb
  unfold pzV
  have HA5 := Lib.hid (HB5.out.alloc HB5.out.size (.cells (styCells warnS) 29))
  have HX7 := Lib.hid ((Below.heap_alloc w5 (.cells (styCells warnS) 29) w2.heap.size (Array.getElem?_eq_some_iff.1 HX6.out).1).trans HX6.out)
  have HY7 := Lib.hid ((Below.heap_alloc w5 (.cells (styCells warnS) 29) w4.heap.size (Array.getElem?_eq_some_iff.1 HY6.out).1).trans HY6.out)
  have HW := Lib.hid (Write_pro warnS _ fit_warn (HT.out.at HA5.out))
  rw [ex4] at HW
  unfold styCells at HA5 HX7 HY7 HW
  unfold styVal
  unfold styVal at HW
  go_wp2_with fail
  refine HW.out.mono ?_
  rintro e w6 ⟨rfl, hb⟩
  have HB6 := Lib.hid (HA5.out.trans (hb.mono HA5.out.size))
  have hx8 := (hb.block w2.heap.size (Array.getElem?_eq_some_iff.1 HX7.out).1).trans HX7.out
  have hy8 := (hb.block w4.heap.size (Array.getElem?_eq_some_iff.1 HY7.out).1).trans HY7.out
  have HY8 := Lib.hid hy8
  have x0 : w6.cell? ⟨w2.heap.size, 0, none⟩ = some (.int .i64 5) := by rw [cell_of_row _ _ _ _ _ _ hx8]; rfl
  have x1 : w6.cell? ⟨w2.heap.size, 1, none⟩ = some (.int .i64 0) := by rw [cell_of_row _ _ _ _ _ _ hx8]; rfl
  have x2 : w6.cell? ⟨w2.heap.size, 2, none⟩ = some (.int .i64 (-1)) := by rw [cell_of_row _ _ _ _ _ _ hx8]; rfl
  have tw := bs_toList warnW
  clear hb hx8 hy8
  unfold wrV
  go_wp2_with fail
  refine (same_law ⟨5, 0, -1⟩ w6).mono ?_
  rintro e w7 ⟨rfl, hb⟩
  have HB7 := Lib.hid (HB6.out.trans (hb.mono HB6.out.size))
  have hy9 := (hb.block w4.heap.size (Array.getElem?_eq_some_iff.1 HY8.out).1).trans HY8.out
  have y0 : w7.cell? ⟨w4.heap.size, 0, none⟩ = some (.int .i64 3) := by rw [cell_of_row _ _ _ _ _ _ hy9]; rfl
  have y1 : w7.cell? ⟨w4.heap.size, 1, none⟩ = some (.int .i64 7) := by rw [cell_of_row _ _ _ _ _ _ hy9]; rfl
  clear hb hy9 x0 x1 x2
  go_wp2_with fail
  refine (look_law ⟨3, 7⟩ w7).mono ?_
  rintro e w8 ⟨rfl, hb⟩
  have HB8 := Lib.hid (HB7.out.trans (hb.mono HB7.out.size))
  clear hb y0 y1
  have tq : (warnW == [119, 97, 114, 110, 58, 98, 32, 43, 117, 110, 100, 101, 114, 32, 45, 98, 111, 108, 100, 32, 99, 111, 108, 111, 114, 32, 49]) = true := by decide
  go_wp2_with fail
  refine (base_pro w8).mono ?_
  rintro e w9 ⟨v9, rfl, ho, hb⟩
  obtain ⟨p9, c9, rfl⟩ := lenOf ho
  have HB9 := Lib.hid (HB8.out.trans (hb.mono HB8.out.size))
  have hl9 : baseL.length = 6 := rfl
  rw [hl9]
  clear ho hb hl9
  go_wp2_with fail
  go_ret
  exact ⟨rfl, HB9.out⟩
end Go.Proofs.YtceanagnkcejgaaGreatDoor
