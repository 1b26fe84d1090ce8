/- awake of the laws of layer 2: the chapter's first examples. -/
import Derived.Test.YthojhjimgfbcbaaDoorPro
import Derived.Test.YthojhjimgfbcbaaDoorEx
namespace Go.Proofs.YthojhjimgfbcbaaDoor
open Go.RowKit Go.Maps

set_option maxRecDepth 100000 in
set_option maxHeartbeats 2000000 in
theorem awake_law (w : World) (hT : Tabs w) : Calls Tryd.prog 15 #[] w (Says (.bool true) w) := by
  have HTW := Lib.hid hT
  clear hT
  go_enter Tryd.func15, Tryd.ntmps15
  go_wp2_with fail
  refine (words_pro _ _ (by decide) HTW.out).mono ?_
  rintro e w1 ⟨vl, rfl, hol, hb1⟩
  rw [ex_words] at hol
  obtain ⟨gl, cl, rfl, _, hgl⟩ := World.ownsRow.form hol (by decide)
  have OL := Lib.hid hol
  have Z1 := Lib.hid hb1
  clear hol hb1
  go_wp2_with fail
  refine (cells_pro _ _ (by decide)).mono ?_
  rintro e w2 ⟨vc, rfl, hoc, hb2⟩
  rw [ex_cells] at hoc
  obtain ⟨gc, cc, rfl, _, hgc⟩ := World.ownsRow.form hoc (by decide)
  have OC := Lib.hid hoc
  have OL2 := Lib.hid (own_below OL.out hb2)
  have Z2 := Lib.hid (Z1.out.trans (hb2.mono Z1.out.size))
  clear hoc hb2
  go_wp2_with fail
  refine (width_pro _ _).mono ?_
  rintro e w3 ⟨rfl, hb3⟩
  have Z3 := Lib.hid (Z2.out.trans (hb3.mono Z2.out.size))
  have OL3 := Lib.hid (own_below OL2.out hb3)
  have OC3 := Lib.hid (own_below OC.out hb3)
  clear hb3
  rw [ex_w1]
  go_wp2_with fail
  refine (width_pro _ _).mono ?_
  rintro e w4 ⟨rfl, hb4⟩
  have Z4 := Lib.hid (Z3.out.trans (hb4.mono Z3.out.size))
  have OL4 := Lib.hid (own_below OL3.out hb4)
  have OC4 := Lib.hid (own_below OC3.out hb4)
  clear hb4
  rw [ex_w2]
  go_wp2_with fail
  refine (width_pro _ _).mono ?_
  rintro e w5 ⟨rfl, hb5⟩
  have Z5 := Lib.hid (Z4.out.trans (hb5.mono Z4.out.size))
  have OL5 := Lib.hid (own_below OL4.out hb5)
  have OC5 := Lib.hid (own_below OC4.out hb5)
  clear hb5
  rw [ex_w3]
  have l3 : w5.cell? ⟨gl, 3, none⟩ = some (.string ⟨#[98, 99]⟩) := (World.ownsRow.cellAt OL5.out 3 (by decide)).trans (by rw [← ex_word]; rfl)
  have l4 : w5.cell? ⟨gl, 4, none⟩ = some (.int .i64 4) := (World.ownsRow.cellAt OL5.out 4 (by decide)).trans rfl
  have c4 : w5.cell? ⟨gc, 4, none⟩ = some (.int .i64 3) := (World.ownsRow.cellAt OC5.out 4 (by decide)).trans rfl
  go_wp2_with fail
  refine (compare_pro _ _ _ (by decide) (by decide) (HTW.out.at Z5.out)).mono ?_
  rintro e w6 ⟨rfl, hb6⟩
  have Z6 := Lib.hid (Z5.out.trans (hb6.mono Z5.out.size))
  clear hb6
  rw [ex_compare]
  go_wp2_with fail
  refine (fold_pro _ _ (by decide) (HTW.out.at Z6.out)).mono ?_
  rintro e w7 ⟨rfl, hb7⟩
  have Z7 := Lib.hid (Z6.out.trans (hb7.mono Z6.out.size))
  clear hb7
  rw [ex_fold]
  go_wp2_with fail
  go_ret
  exact ⟨rfl, Z7.out⟩
end Go.Proofs.YthojhjimgfbcbaaDoor
