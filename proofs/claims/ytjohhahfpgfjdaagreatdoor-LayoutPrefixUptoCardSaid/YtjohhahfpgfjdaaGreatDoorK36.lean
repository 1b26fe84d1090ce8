/- The texts that the laws of layout stand on, part 36. -/
import Derived.Test.YtjohhahfpgfjdaaGreatDoorK7
import Derived.Test.YtjohhahfpgfjdaaGreatDoorK34
import Derived.Test.YtjohhahfpgfjdaaGreatDoorK35
import Derived.BigQuiet
section
namespace Go.Proofs.YtjohhahfpgfjdaaGreatDoor.Tb
open Go.RowKit Go.Maps
set_option linter.unusedVariables false
set_option linter.unusedSimpArgs false
def exLn : List (List Gl) := [letsL ⟨#[115, 101, 101, 32, 116, 104, 101, 32]⟩ ++ [⟨⟨#[103]⟩, 1, 0, 7, 1⟩, ⟨⟨#[111]⟩, 1, 0, 7, 1⟩], [⟨⟨#[111]⟩, 1, 0, 7, 1⟩, ⟨⟨#[110]⟩, 1, 0, 7, 1⟩]]
def exD : Ld := ⟨exLn, [⟨0, 8, 2, 1⟩, ⟨1, 0, 2, 1⟩], [(0, 0)], false⟩
theorem ex_d : layL [] exL 1 10 = exD := by
  have h1 := ex_lines
  have h2 := ex_rects
  have h3 := ex_links
  obtain ⟨d, hd⟩ : ∃ d, layL [] exL 1 10 = d := ⟨_, rfl⟩
  rw [hd] at h1 h2 h3 ⊢
  obtain ⟨a, b, c, m⟩ := d
  dsimp only at h1 h2 h3
  rw [h1, h2, h3.1, h3.2]
  rfl
set_option maxRecDepth 100000 in
theorem ex_show : showL exLn = [⟨#[115, 101, 101, 32, 116, 104, 101, 32, 103, 111]⟩, ⟨#[111, 110]⟩] := by kernel_rfl
set_option maxRecDepth 100000 in
theorem ex_rec : rectsL exLn = [⟨0, 8, 2, 1⟩, ⟨1, 0, 2, 1⟩] := by kernel_rfl
theorem ex_hit : hitF 1 1 [⟨0, 8, 2, 1⟩, ⟨1, 0, 2, 1⟩] = some 1 := by kernel_rfl
def oEx : Obj := .cells #[.int .i64 8, .int .i64 (-1), .string ⟨#[]⟩, .slice none 0 0, .int .i64 1, .int .i64 0, .string ⟨#[115, 101, 101, 32, 116, 104, 101, 32]⟩, .slice none 0 0, .int .i64 3, .int .i64 0, .string ⟨#[]⟩, .slice none 0 0, .int .i64 1, .int .i64 0, .string ⟨#[103, 111, 32, 111, 110]⟩, .slice none 0 0, .int .i64 5, .int .i64 0, .string ⟨#[]⟩, .slice none 0 0, .int .i64 9, .int .i64 0, .string ⟨#[]⟩, .slice none 0 0] 53
theorem ex_op (w : World) : Ir.RdO (fun _ => True) (w.alloc oEx) (.slice (some ⟨w.heap.size, 0, none⟩) 6 6) exL := by
  have h := heap_alloc_new w oEx
  refine ⟨_, 6, rfl, Nat.le_refl _, by decide, fun j hj => ⟨w.heap.size, 0, rfl, trivial, ?_⟩⟩
  have hj4 : j < 6 := hj
  rcases (show j = 0 ∨ j = 1 ∨ j = 2 ∨ j = 3 ∨ j = 4 ∨ j = 5 by omega) with rfl | rfl | rfl | rfl | rfl | rfl <;> (refine ⟨?_, ?_, ?_, _, ?_, ⟨none, 0, rfl, Nat.le_refl _, Nat.zero_le _, fun i hi => absurd hi (Nat.not_lt_zero _)⟩⟩ <;> (rw [cell_of_row _ _ _ _ _ _ h]; rfl))
theorem two_strs {w : World} {B : Nat} {v : Value} {a b : ByteArray} (h : w.ownsRow B 9 1 v [a, b].length (strsV [a, b])) : ∃ g c, v = .slice (some ⟨g, 0, none⟩) 2 c ∧ w.cell? ⟨g, 0, none⟩ = some (.string a) ∧ w.cell? ⟨g, 1, none⟩ = some (.string b) := by
  rcases h.2 with ⟨e, h0⟩ | ⟨g, cap, cur, e, hb, hg, h1, h2, h3, h4⟩
  · simp at h0
  · subst e
    exact ⟨g, cap, rfl, World.ownsRow.cellAt h 0 (by simp [strsV]), World.ownsRow.cellAt h 1 (by simp [strsV])⟩
set_option maxRecDepth 100000 in
set_option maxHeartbeats 8000000 in
theorem awake_law (w : World) (hT : Tabs w) (hT6 : S6.Tabs w) : Calls Tryz.prog 9 #[] w (SaysL (.bool true) w) := by
  have hA := below_box w oEx
  have HA := Lib.hid hA
  have HLy := Lib.hid (layout_pro [] exL (.slice none 0 0) (.slice (some ⟨w.heap.size, 0, none⟩) 6 6) 1 10 (w.alloc oEx) ⟨none, 0, rfl, Nat.le_refl _, Nat.zero_le _, fun i hi => absurd hi (Nat.not_lt_zero _)⟩ (fun s hs => by simp at hs) (ex_op w) (by unfold Ir.sizeOk; decide +kernel) (hT.below hA (Nat.le_refl _)) (hT6.below hA (Nat.le_refl _)))
  unfold LayIs at HLy
  rw [ex_d, ex_err] at HLy
  unfold oEx at HA HLy
  clear hA hT hT6
  go_enter Tryz.func9, Tryz.ntmps9
  go_wp2_with fail
  refine HLy.out.mono ?_
  rintro e w2 ⟨vl, vr, vk, rfl, hD, hb⟩
  obtain ⟨pl, cl, rfl, -, -⟩ := hD.lines.form
  obtain ⟨pr, cr, rfl, -, -⟩ := hD.rects.form
  obtain ⟨pk, ck, rfl, -, -, -⟩ := hD.links
  have hB := HA.out.trans (hb.mono HA.out.size)
  have HB := Lib.hid hB
  unfold laidV
  rw [show exD.more = false from rfl]
  rw [show exD.lines.length = 2 from rfl, show exD.rects.length = 2 from rfl, show exD.links.length = 1 from rfl] at hD ⊢
  have HX := Lib.hid (laid_cells w2 (.slice pl 2 cl) (.slice pr 2 cr) (.slice pk 1 ck) false)
  have hA2 := below_box w2 (.cells #[.slice pl 2 cl, .slice pr 2 cr, .slice pk 1 ck, .bool false] 29)
  have HD := Lib.hid (hD.below hA2)
  have HB2 := Lib.hid (hB.trans (hA2.mono hB.size))
  have hx := HX.out
  obtain ⟨d0, d1, d2, d3⟩ : (w2.alloc (.cells #[.slice pl 2 cl, .slice pr 2 cr, .slice pk 1 ck, .bool false] 29)).cell? ⟨w2.heap.size, 0, none⟩ = some (.slice pl 2 cl) ∧ (w2.alloc (.cells #[.slice pl 2 cl, .slice pr 2 cr, .slice pk 1 ck, .bool false] 29)).cell? ⟨w2.heap.size, 1, none⟩ = some (.slice pr 2 cr) ∧ (w2.alloc (.cells #[.slice pl 2 cl, .slice pr 2 cr, .slice pk 1 ck, .bool false] 29)).cell? ⟨w2.heap.size, 2, none⟩ = some (.slice pk 1 ck) ∧ (w2.alloc (.cells #[.slice pl 2 cl, .slice pr 2 cr, .slice pk 1 ck, .bool false] 29)).cell? ⟨w2.heap.size, 3, none⟩ = some (.bool false) := by
    refine ⟨?_, ?_, ?_, ?_⟩ <;> rw [cell_of_row _ _ _ _ _ _ hx] <;> rfl
  have HSh := Lib.hid (show_pro exLn (.slice pl 2 cl) (.slice pr 2 cr) (.slice pk 1 ck) false _ HD.out.lines rfl rfl (by decide) (by decide +kernel))
  unfold laidV MakesS at HSh
  rw [ex_show] at HSh
  clear hD hb hB hA2 HLy hx
  go_wp2_with fail
  refine HSh.out.mono ?_
  rintro e w4 ⟨vs, rfl, ho4, hb4⟩
  obtain ⟨gs, cs, rfl, s0, s1⟩ := two_strs ho4
  obtain ⟨b, hbn⟩ : ∃ b, w2.heap.size = b := ⟨_, rfl⟩
  have hx4 := (hb4.block w2.heap.size (Array.getElem?_eq_some_iff.1 HX.out).1).trans HX.out
  have HX4 := Lib.hid hx4
  have HD4 := Lib.hid (HD.out.below hb4)
  have HB4 := Lib.hid (HB2.out.trans (hb4.mono HB2.out.size))
  rw [hbn] at HX4 hx4 ⊢
  clear d0 d1 d2 d3 ho4 hb4 HX HD HB2 HSh HB
  have d0 : w4.cell? ⟨b, 0, none⟩ = some (.slice pl 2 cl) := by rw [cell_of_row _ _ _ _ _ _ hx4]; rfl
  have d1 : w4.cell? ⟨b, 1, none⟩ = some (.slice pr 2 cr) := by rw [cell_of_row _ _ _ _ _ _ hx4]; rfl
  have d2 : w4.cell? ⟨b, 2, none⟩ = some (.slice pk 1 ck) := by rw [cell_of_row _ _ _ _ _ _ hx4]; rfl
  have d3 : w4.cell? ⟨b, 3, none⟩ = some (.bool false) := by rw [cell_of_row _ _ _ _ _ _ hx4]; rfl
  have HRc := Lib.hid (rects_pro exLn (.slice pl 2 cl) w4 HD4.out.lines (by decide +kernel))
  unfold MakesQ at HRc
  rw [ex_rec] at HRc
  clear hx4
  go_wp2_with fail
  refine HRc.out.mono ?_
  rintro e w5 ⟨vq, rfl, ho5, hb5⟩
  obtain ⟨pq, cq, rfl⟩ := lenL ho5
  rw [show [(⟨0, 8, 2, 1⟩ : Rc), ⟨1, 0, 2, 1⟩].length = 2 from rfl]
  have hx5 := (hb5.block b (Array.getElem?_eq_some_iff.1 HX4.out).1).trans HX4.out
  have HX5 := Lib.hid hx5
  have HD5 := Lib.hid (HD4.out.below hb5)
  have HB5 := Lib.hid (HB4.out.trans (hb5.mono HB4.out.size))
  clear d0 d1 d2 d3 s0 s1 ho5 hb5 HX4 HD4 HB4 HRc
  have d0 : w5.cell? ⟨b, 0, none⟩ = some (.slice pl 2 cl) := by rw [cell_of_row _ _ _ _ _ _ hx5]; rfl
  have d1 : w5.cell? ⟨b, 1, none⟩ = some (.slice pr 2 cr) := by rw [cell_of_row _ _ _ _ _ _ hx5]; rfl
  have d2 : w5.cell? ⟨b, 2, none⟩ = some (.slice pk 1 ck) := by rw [cell_of_row _ _ _ _ _ _ hx5]; rfl
  have d3 : w5.cell? ⟨b, 3, none⟩ = some (.bool false) := by rw [cell_of_row _ _ _ _ _ _ hx5]; rfl
  have HHt := Lib.hid (hit_pro exD.rects (.slice pl 2 cl) (.slice pr 2 cr) (.slice pk 1 ck) false 1 1 w5 HD5.out.rects rfl rfl)
  unfold laidV at HHt
  rw [show hitF 1 1 exD.rects = some 1 from ex_hit] at HHt
  unfold hitV at HHt
  dsimp only at HHt
  clear hx5
  go_wp2_with fail
  refine HHt.out.mono ?_
  rintro e w6 ⟨rfl, hb6⟩
  have hx6 := (hb6.block b (Array.getElem?_eq_some_iff.1 HX5.out).1).trans HX5.out
  have HX6 := Lib.hid hx6
  have HD6 := Lib.hid (HD5.out.below hb6)
  have HB6 := Lib.hid (HB5.out.trans (hb6.mono HB5.out.size))
  clear d0 d1 d2 d3 hb6 HX5 HD5 HB5 HHt
  have d0 : w6.cell? ⟨b, 0, none⟩ = some (.slice pl 2 cl) := by rw [cell_of_row _ _ _ _ _ _ hx6]; rfl
  have d1 : w6.cell? ⟨b, 1, none⟩ = some (.slice pr 2 cr) := by rw [cell_of_row _ _ _ _ _ _ hx6]; rfl
  have d2 : w6.cell? ⟨b, 2, none⟩ = some (.slice pk 1 ck) := by rw [cell_of_row _ _ _ _ _ _ hx6]; rfl
  have d3 : w6.cell? ⟨b, 3, none⟩ = some (.bool false) := by rw [cell_of_row _ _ _ _ _ _ hx6]; rfl
  have HSm := Lib.hid (lsame_pro exD exD (.slice pl 2 cl) (.slice pr 2 cr) (.slice pk 1 ck) (.slice pl 2 cl) (.slice pr 2 cr) (.slice pk 1 ck) w6 HD6.out HD6.out)
  unfold laidV SaysL at HSm
  rw [decide_eq_true (rfl : exD = exD), show exD.more = false from rfl] at HSm
  clear hx6
  go_wp2_with fail
  refine HSm.out.mono ?_
  rintro e w7 ⟨rfl, hb7⟩
  have hx7 := (hb7.block b (Array.getElem?_eq_some_iff.1 HX6.out).1).trans HX6.out
  have HB7 := Lib.hid (HB6.out.trans (hb7.mono HB6.out.size))
  have hr7 := (HD6.out.below hb7).rects
  obtain ⟨q, off, rfl, _, r0, r1, r2, r3⟩ := hr7.at_ (j := 0) (by decide)
  rw [show exD.rects[0] = ⟨0, 8, 2, 1⟩ from rfl, Nat.zero_mul, Nat.add_zero] at r1 r2
  dsimp only at r1 r2
  clear d0 d1 d2 d3 hb7 HX6 HD6 HB6 HSm r0 r3 hr7
  have d1 : w7.cell? ⟨b, 1, none⟩ = some (.slice (some ⟨q, off, none⟩) 2 cr) := by rw [cell_of_row _ _ _ _ _ _ hx7]; rfl
  clear hx7
  go_wp2_with fail
  go_ret
  exact ⟨rfl, HB7.out⟩
end Go.Proofs.YtjohhahfpgfjdaaGreatDoor.Tb
end
