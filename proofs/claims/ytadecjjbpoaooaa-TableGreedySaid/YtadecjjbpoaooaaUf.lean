/- Layer 12: put and end of a filling: of the program. -/
import Derived.Test.YtadecjjbpoaooaaUe
import Derived.Deep.RegionLaw
namespace Go.Proofs.Ytadecjjbpoaooaa.Tb
open Go.RowKit Go.Maps
set_option linter.unusedVariables false
set_option linter.unusedSimpArgs false
set_option maxRecDepth 100000 in
set_option maxHeartbeats 4000000 in
theorem put_pro {B g : Nat} {wide : Int} {K : Nat → Prop} {s : Fs} (x : Gl) (w : World) (h : Fl true B g wide K s w) (hl : s.line.length ≤ 100000) (h0 : 0 ≤ wid s.line) (h1 : wid s.line ≤ 100000) (hx : 0 ≤ x.wd ∧ x.wd ≤ 2) :
    Calls Try.prog 48 #[.pointer (some ⟨g, 0, none⟩), glV x] w (FlPost true B g wide K (putS s x) (.tuple #[]) w) := by
  obtain ⟨i0, hi0, hz0, hz1, hz2⟩ := info_parts infoG
  obtain ⟨vo, vl, vw, vs, hF⟩ := h
  have hA := below_box w (boxG x)
  have HA := Lib.hid hA
  have hF1 := hF.below hA
  have hKl := fun c hc => (hF.apart c hc).1
  have HK1 := Lib.hid (Kp.of hA hKl)
  obtain ⟨u, hu⟩ : ∃ u, wid s.line = u := ⟨_, rfl⟩
  rw [hu] at hF1 h0 h1
  have HU := Lib.hid hu
  have L1 := Lib.hid (show s.line.length + 1 ≤ maxLen by unfold maxLen; omega)
  have L2 := Lib.hid (show (s.line.length + 1) * 48 ≤ 140737488355328 by omega)
  have x1 := hx.1
  have x2 := hx.2
  obtain ⟨W1, hW1⟩ : ∃ W1, w.alloc (boxG x) = W1 := ⟨_, rfl⟩
  have hX := heap_alloc_new w (boxG x)
  obtain ⟨b, hb⟩ : ∃ b, w.heap.size = b := ⟨_, rfl⟩
  have hbg : b ≠ g := by have := hF.ng.2.2; omega
  have hbl : vl.ownBlock ≠ some b := fun e => by have := (own_base hF.line e).2; omega
  rw [hW1] at hF1 hX HK1
  rw [hb] at hX
  have hbW : b < W1.heap.size := (Array.getElem?_eq_some_iff.1 hX).1
  have HXC : Hid (∀ W2 : World, W2.heap[b]? = some (boxG x) → W2.cell? ⟨b, 0, none⟩ = some (.string x.t) ∧ W2.cell? ⟨b, 1, none⟩ = some (.int .i64 x.wd) ∧ W2.cell? ⟨b, 2, none⟩ = some (.int .i64 x.at_) ∧ W2.cell? ⟨b, 3, none⟩ = some (.int .i64 x.co) ∧ W2.cell? ⟨b, 4, none⟩ = some (.int .i64 x.lk)) := Lib.hid (fun W2 h2 => by
    unfold boxG at h2
    refine ⟨?_, ?_, ?_, ?_, ?_⟩ <;> rw [cell_of_row _ _ _ _ _ _ h2] <;> rfl)
  have HX := Lib.hid hX
  obtain ⟨d0, d1, d2, d3, d4⟩ := HXC.out W1 hX
  have q := bx_cellsP hF1.blk
  obtain ⟨q0, q1, q2, q3, q4⟩ := q
  have HF1 := Lib.hid hF1
  have hB2 := below_box W1.drew (boxG x)
  have HF2 := Lib.hid (hF1.drew.below hB2)
  have L3 := Lib.hid (show B ≤ (W1.drew.alloc (boxG x)).heap.size by have := hF1.base; have := hF1.ng.2.2; have : W1.heap.size ≤ _ := hB2.size; omega)
  have qA : (W1.alloc (boxG x)).cell? ⟨g, 2, none⟩ = some vl := (bx_cellsP (hF1.below (below_box W1 (boxG x))).blk).2.2.1
  have HKl1 := Lib.hid (fun c (hc : K c) => (hF1.apart c hc).1)
  have HK2 := Lib.hid ((HK1.out.drew).trans (Kp.of hB2 (fun c hc => (hF1.apart c hc).1)))
  have HAP := Lib.hid (fun c (hc : K c) => (show c < (W1.drew.alloc (boxG x)).heap.size ∧ vl.ownBlock ≠ some c from ⟨((hF1.drew.below hB2).apart c hc).1, (hF1.apart c hc).2.2.1⟩))
  have HXB := Lib.hid (show (W1.drew.alloc (boxG x)).heap[b]? = some (boxG x) from (Below.heap_alloc _ _ _ hbW).trans hX)
  have HBL := Lib.hid (show b < (W1.drew.alloc (boxG x)).heap.size from (Array.getElem?_eq_some_iff.1 HXB.out).1)
  have HNG := Lib.hid hF1.ng
  have HNW := Lib.hid hF.notKg
  have mixed : Try.prog.follows .mixedOrders = true := by kernel_rfl
  unfold boxG at hW1 L3 qA HF2 HK2 HAP HXB HBL
  unfold glV
  clear hA hF hF1 hu hKl hB2 hX hl hx
  go_enter Try.func48, Try.ntmps48
  go_wp2_with fail
  try simp only [hW1, hb]
  go_region_law (refine step_append_lies _ rfl (.tmp 8) (.tmp 10) 32 rfl B 40 i0 _ 5 48 Try.underlying32 hi0 hz0 hz1 hz2 rfl (by decide) vl s.line.length (rowsG s.line) (by simp [Act.eval]) HF2.out.line ⟨W1.heap.size, 0, none⟩ 1 1 (glRow x) (by simp [Act.eval]) rfl (cells_newL _ _ _) (glRow_one x) (by decide) L1.out L2.out L3.out _ rfl ?_; intro g' cap w3 hown' hgrow hat _; have hgk := hgrow.block g HF2.out.ng.2.2 (fun e => HNG.out.1 e.symm); have hg3 := hgk.trans HF2.out.blk; obtain ⟨r0, r1, r2, r3, r4⟩ := bx_cellsP hg3; have f2 := bx_frozen hg3 2; have HW3 := Lib.hid hown'; have HGR := Lib.hid hgrow; have HAT := Lib.hid hat; have HG3 := Lib.hid hg3; clear hown' hgrow hat hgk hg3)
  all_goals
    have hg4 : (w3.setCell ⟨g, 2, none⟩ (.slice (some ⟨g', 0, none⟩) (s.line.length + 1) cap)).heap[g]? = some (bx true wide vo (.slice (some ⟨g', 0, none⟩) (s.line.length + 1) cap) u vw) := heap_setCell_same w3 g 2 _ _ _ HG3.out
    have hb4 : (w3.setCell ⟨g, 2, none⟩ (.slice (some ⟨g', 0, none⟩) (s.line.length + 1) cap)).heap[b]? = some (boxG x) := (Below.heap_setCell _ _ _ _ hbg).trans ((HGR.out.block b HBL.out (fun e => hbl e.symm)).trans HXB.out)
    have HK4 := Lib.hid ((HK2.out.grown HGR.out HAP.out).set 2 HNW.out (.slice (some ⟨g', 0, none⟩) (s.line.length + 1) cap))
    obtain ⟨W4, hW4⟩ : ∃ W4, w3.setCell ⟨g, 2, none⟩ (.slice (some ⟨g', 0, none⟩) (s.line.length + 1) cap) = W4 := ⟨_, rfl⟩
    have HW4 := Lib.hid hW4
    rw [hW4] at hg4 hb4 HK4
    try simp only [hW4]
    obtain ⟨y0, y1, y2, y3, y4⟩ := bx_cellsP hg4
    obtain ⟨z0, z1, z2, z3, z4⟩ := HXC.out W4 hb4
    have f3 := bx_frozen hg4 3
    have HG4 := Lib.hid hg4
    clear hg4 hb4 hW4 d0 d1 d2 d3 d4 q0 q1 q2 q3 q4 qA r0 r1 r2 r3 r4 f2
    go_wp2_with fail
    go_region
    all_goals
      go_wp2_with fail
      go_end0
      have hg5 : (W4.drew.setCell ⟨g, 3, none⟩ (.int .i64 (u + x.wd))).heap[g]? = some (bx true wide vo (.slice (some ⟨g', 0, none⟩) (s.line.length + 1) cap) (u + x.wd) vw) := heap_setCell_same W4 g 3 _ _ _ HG4.out
      have hp := HF2.out.push (xs := [x]) rfl HGR.out (by rw [show rowsG [x] = glRow x from by simp [rowsG]]; exact HW3.out) HAT.out (W4 := W4.drew.setCell ⟨g, 3, none⟩ (.int .i64 (u + x.wd))) (by have := HW4.out; simp [World.setCell, ← this, World.drew]) hg5 (fun c hc => (Below.heap_setCell _ _ _ _ hc).trans (by have := HW4.out; rw [← this]; exact Below.heap_setCell _ _ _ _ hc))
      exact ⟨rfl, ⟨_, _, _, _, by have := hp.1; simp only [putS, wid_app, wid_one, HU.out]; exact this⟩, (HK4.out.drew).set 3 HNW.out _⟩
set_option maxRecDepth 100000 in
set_option maxHeartbeats 4000000 in
theorem end_pro {B g : Nat} {wide : Int} {K : Nat → Prop} {s : Fs} (w : World) (h : Fl true B g wide K s w) (hl : (s.out.length + 1) * 24 ≤ 140737488355328) :
    Calls Try.prog 42 #[.pointer (some ⟨g, 0, none⟩)] w (FlPost true B g wide K (endS s) (.tuple #[]) w) := by
  obtain ⟨i0, hi0, hz0, hz1, hz2⟩ := info_parts infoL
  obtain ⟨vo, vl, vw, vs, hF⟩ := h
  obtain ⟨pl, cl, rfl⟩ := lenL hF.line
  have hB2 := below_box w.drew (.cells #[.slice pl s.line.length cl] 32)
  have HF2 := Lib.hid (hF.drew.below hB2)
  have HK2 := Lib.hid (((Kp.refl K w).drew).trans (Kp.of hB2 (fun c hc => (hF.apart c hc).1)))
  have L1 := Lib.hid (show s.out.length + 1 ≤ maxLen by unfold maxLen; omega)
  have L2 := Lib.hid (show (s.out.length + 1) * 24 ≤ 140737488355328 by omega)
  have L3 := Lib.hid (show B ≤ (w.drew.alloc (.cells #[.slice pl s.line.length cl] 32)).heap.size by have := hF.base; have := hF.ng.2.2; have : w.heap.size ≤ _ := hB2.size; omega)
  obtain ⟨u, hu⟩ : ∃ u, wid s.line = u := ⟨_, rfl⟩
  rw [hu] at hF HF2
  obtain ⟨q0, q1, q2, q3, q4⟩ := bx_cellsP hF.blk
  have qA : ∀ i v, w.cell? ⟨g, i, none⟩ = some v → (w.alloc (.cells #[.slice pl s.line.length cl] 32)).cell? ⟨g, i, none⟩ = some v := fun i v hc => ((below_box w _).cell (p := ⟨g, i, none⟩) hF.ng.2.2).trans hc
  have qA0 := qA 2 _ q2
  have qA1 := qA 1 _ q1
  have HNG := Lib.hid hF.ng
  have HNW := Lib.hid hF.notKg
  have HAP := Lib.hid (fun c (hc : K c) => (show c < (w.drew.alloc (.cells #[.slice pl s.line.length cl] 32)).heap.size ∧ vo.ownBlock ≠ some c from ⟨((hF.drew.below hB2).apart c hc).1, (hF.apart c hc).2.2.2⟩))
  have H1 := Lib.hid (own_one hF.line)
  have hon : ∀ u ∈ [Value.slice pl s.line.length cl], u.oneCell' = true := fun u hu => by
    rw [List.mem_singleton] at hu
    rw [hu]; exact H1.out
  have HON := Lib.hid hon
  have mixed : Try.prog.follows .mixedOrders = true := by kernel_rfl
  clear hF hu hB2 hl qA hon
  go_enter Try.func42, Try.ntmps42
  go_wp2_with fail
  go_region_law (refine step_append_lies _ rfl (.tmp 6) (.tmp 11) 33 rfl B 32 i0 _ 1 24 Try.underlying33 hi0 hz0 hz1 hz2 rfl (by decide) vo s.out.length vs (by simp [Act.eval]) HF2.out.out.row ⟨w.heap.size, 0, none⟩ 1 1 [.slice pl s.line.length cl] (by simp [Act.eval, Value.cells]) rfl (cells_newL _ _ _) HON.out (by decide) L1.out L2.out L3.out _ rfl ?_; intro g' cap w3 hown' hgrow hat _; have hgk := hgrow.block g HF2.out.ng.2.2 (fun e => HNG.out.2.1 e.symm); have hg3 := hgk.trans HF2.out.blk; obtain ⟨r0, r1, r2, r3, r4⟩ := bx_cellsP hg3; have f2 := bx_frozen hg3 1; have HW3 := Lib.hid hown'; have HGR := Lib.hid hgrow; have HAT := Lib.hid hat; have HG3 := Lib.hid hg3; clear hown' hgrow hat hgk hg3)
  all_goals
    clear q0 q1 q2 q3 q4 qA0 qA1
    have hg4 : (w3.setCell ⟨g, 1, none⟩ (.slice (some ⟨g', 0, none⟩) (s.out.length + 1) cap)).heap[g]? = some (bx true wide (.slice (some ⟨g', 0, none⟩) (s.out.length + 1) cap) (.slice pl s.line.length cl) u vw) := heap_setCell_same w3 g 1 _ _ _ HG3.out
    have hg5 : ((w3.setCell ⟨g, 1, none⟩ (.slice (some ⟨g', 0, none⟩) (s.out.length + 1) cap)).setCell ⟨g, 2, none⟩ (.slice none 0 0)).heap[g]? = some (bx true wide (.slice (some ⟨g', 0, none⟩) (s.out.length + 1) cap) (.slice none 0 0) u vw) := heap_setCell_same _ g 2 _ _ _ hg4
    have hg6 : (((w3.setCell ⟨g, 1, none⟩ (.slice (some ⟨g', 0, none⟩) (s.out.length + 1) cap)).setCell ⟨g, 2, none⟩ (.slice none 0 0)).setCell ⟨g, 3, none⟩ (.int .i64 0)).heap[g]? = some (bx true wide (.slice (some ⟨g', 0, none⟩) (s.out.length + 1) cap) (.slice none 0 0) 0 vw) := heap_setCell_same _ g 3 _ _ _ hg5
    have hg7 : ((((w3.setCell ⟨g, 1, none⟩ (.slice (some ⟨g', 0, none⟩) (s.out.length + 1) cap)).setCell ⟨g, 2, none⟩ (.slice none 0 0)).setCell ⟨g, 3, none⟩ (.int .i64 0)).setCell ⟨g, 4, none⟩ (.slice none 0 0)).heap[g]? = some (bx true wide (.slice (some ⟨g', 0, none⟩) (s.out.length + 1) cap) (.slice none 0 0) 0 (.slice none 0 0)) := heap_setCell_same _ g 4 _ _ _ hg6
    have e4 := bx_cellsP hg4
    have e5 := bx_cellsP hg5
    have e6 := bx_cellsP hg6
    obtain ⟨a0, a1, a2, a3, a4⟩ := e4
    obtain ⟨b0, b1, b2, b3, b4⟩ := e5
    obtain ⟨c0, c1, c2, c3, c4⟩ := e6
    have k4 := bx_frozen hg4 2
    have k5 := bx_frozen hg5 3
    have k6 := bx_frozen hg6 4
    have HG7 := Lib.hid hg7
    have HK7 := Lib.hid ((((((HK2.out.grown HGR.out HAP.out).set 1 HNW.out (.slice (some ⟨g', 0, none⟩) (s.out.length + 1) cap)).set 2 HNW.out (.slice none 0 0)).set 3 HNW.out (.int .i64 0)).set 4 HNW.out (.slice none 0 0)))
    clear hg4 hg5 hg6 hg7 r0 r1 r2 r3 r4 f2
    go_wp2_with fail
    go_end0
    have hp := HF2.out.told HGR.out HW3.out HAT.out (W4 := ((((w3.setCell ⟨g, 1, none⟩ (.slice (some ⟨g', 0, none⟩) (s.out.length + 1) cap)).setCell ⟨g, 2, none⟩ (.slice none 0 0)).setCell ⟨g, 3, none⟩ (.int .i64 0)).setCell ⟨g, 4, none⟩ (.slice none 0 0))) (by simp [World.setCell]) HG7.out (fun c hc => (Below.heap_setCell _ _ _ _ hc).trans ((Below.heap_setCell _ _ _ _ hc).trans ((Below.heap_setCell _ _ _ _ hc).trans (Below.heap_setCell _ _ _ _ hc))))
    exact ⟨rfl, ⟨_, _, _, _, hp.1⟩, HK7.out⟩
end Go.Proofs.Ytadecjjbpoaooaa.Tb
