/- The texts that the laws of layout stand on, part 27. -/
import Derived.Test.YtjohhahfpgfjdaaGreatDoorK13
import Derived.Test.YtjohhahfpgfjdaaGreatDoorK26
section
namespace Go.Proofs.YtjohhahfpgfjdaaGreatDoor.Tb
open Go.RowKit Go.Maps
set_option linter.unusedVariables false
set_option linter.unusedSimpArgs false
set_option maxRecDepth 100000 in
set_option maxHeartbeats 4000000 in
theorem lput_pro {B M : Nat} {K : Nat → Prop} {wd : Int} {ch : List S6.Chg} {y : Ly} (t : ByteArray) (z : Int) (w : World) (h : LyI true B M K wd ch y w) (h0 : 0 < y.lo.length) (hn : y.fl.length ≤ 1000000) :
    Calls Tryz.prog 58 #[.pointer (some ⟨M, 0, none⟩), .string t, .int .i64 z] w (LyPost true B M K wd ch (putY y t z) (.tuple #[]) w) := by
  obtain ⟨i0, hi0, hz0, hz1, hz2⟩ := info_parts infoG
  have HTP := Lib.hid (fun W (hb : Below w.heap.size w W) => top_pro W (h.below hb) h0)
  obtain ⟨vh, vl, vk, vc, ve, vf, vo, vs, cs, c, h, h2⟩ := h
  obtain rfl : vf = vo := h2 rfl
  have hM := h.lt
  obtain ⟨pf, cf, rfl⟩ := lenL h.fl
  have c91 : w.cell? ⟨M, 91, none⟩ = some (.slice pf y.fl.length cf) := (h.cell 91).trans h.cel.fl
  have c7 : w.cell? ⟨M, 7, none⟩ = some (.int .i64 y.link) := (h.cell 7).trans h.cel.ln
  have HY : Hid (glRow (glY y t z) = [.string t, .int .i64 z, .int .i64 (topLk y).att, .int .i64 (topLk y).col, .int .i64 y.link]) := Lib.hid rfl
  have HPY : Hid (putY y t z = { y with fl := y.fl ++ [glY y t z] }) := Lib.hid rfl
  obtain ⟨k, hk⟩ : ∃ k, topLk y = k := ⟨_, rfl⟩
  obtain ⟨ln, hln⟩ : ∃ ln, y.link = ln := ⟨_, rfl⟩
  obtain ⟨gl, hgl⟩ : ∃ gl, glY y t z = gl := ⟨_, rfl⟩
  obtain ⟨n, hnn⟩ : ∃ n, y.fl.length = n := ⟨_, rfl⟩
  have HN := Lib.hid hnn
  rw [hk, hln, hgl] at HY
  rw [hk] at HTP
  rw [hln] at c7
  rw [hgl] at HPY
  rw [hnn] at c91 hn h
  have HH := Lib.hid h
  have HCA := Lib.hid (fun W (hb : Below w.heap.size w W) => (show W.cell? ⟨M, 91, none⟩ = some (.slice pf n cf) ∧ W.cell? ⟨M, 7, none⟩ = some (.int .i64 ln) from ⟨(hb.cell (p := ⟨M, 91, none⟩) hM).trans c91, (hb.cell (p := ⟨M, 7, none⟩) hM).trans c7⟩))
  have L1 := Lib.hid (show n + 1 ≤ maxLen by unfold maxLen; omega)
  have L2 := Lib.hid (show (n + 1) * 48 ≤ 140737488355328 by omega)
  have HBW := Lib.hid (show B ≤ w.heap.size by have := h.base; omega)
  have mixed : Tryz.prog.follows .mixedOrders = true := by kernel_rfl
  have HD := Lib.hid ((Below.refl w.heap.size w).drew)
  obtain ⟨d91, d7⟩ := HCA.out w.drew HD.out
  clear h h2 h0 hk hln hgl hnn
  go_enter Tryz.func58, Tryz.ntmps58
  go_wp2_with fail
  go_region_law (first
    | (go_simp; go_at_call 89; refine (HTP.out _ HD.out).mono ?_; rintro e w2 ⟨rfl, hb2⟩; have HB2 := Lib.hid (HD.out.trans (hb2.mono HD.out.size)); obtain ⟨e91, e7⟩ := HCA.out w2 HB2.out; obtain ⟨g91, g7⟩ := HCA.out (w2.alloc (.cells #[.string t, .int .i64 z, .int .i64 k.att, .int .i64 k.col, .int .i64 ln] 44)) (HB2.out.trans ((below_box w2 _).mono HB2.out.size)); have HL2 := Lib.hid (HH.out.below HB2.out); clear hb2)
    | (refine step_append_lies _ rfl (.tmp 10) (.tmp 22) 34 rfl B 44 i0 _ 5 48 Tryz.underlying34 hi0 hz0 hz1 hz2 rfl (by decide) (.slice pf n cf) n (rowsG y.fl) (by simp [Act.eval]) (by have h9 := (HL2.out.below (below_box w2 (.cells #[.string t, .int .i64 z, .int .i64 k.att, .int .i64 k.col, .int .i64 ln] 44))).fl; rw [HN.out] at h9; exact h9) ⟨w2.heap.size, 0, none⟩ 1 1 [.string t, .int .i64 z, .int .i64 k.att, .int .i64 k.col, .int .i64 ln] (by simp [Act.eval, Value.cells]) rfl (cells_newL _ _ _) (by rw [← HY.out]; exact glRow_one _) (by decide) L1.out L2.out (Nat.le_trans HBW.out (Nat.le_trans HB2.out.size (below_box w2 _).size)) _ rfl ?_; intro g' cap w3 hown' hgrow hat _; have HW3 := Lib.hid hown'; have HGR := Lib.hid hgrow; have HAT := Lib.hid hat; have hx := HL2.out.below (below_box w2 (.cells #[.string t, .int .i64 z, .int .i64 k.att, .int .i64 k.col, .int .i64 ln] 44)); have hgk := (hgrow.block M hx.lt (fun e => hx.nM.2.2.2 e.symm)).trans hx.blk; have r4 : w3.cell? ⟨M, 91, none⟩ = some (.slice pf n cf) := (by rw [cell_of_row _ _ _ _ _ _ hgk]; exact hx.cel.fl); have f4 : w3.frozen? ⟨M, 91, none⟩ = false := frozen_of_row w3 M 91 _ _ hgk; have HGK := Lib.hid hgk; clear hown' hgrow hat hx hgk))
  all_goals
    go_wp2_with fail
    first | go_end0 | refine bodyPost_ret (results_none rfl _ _ _) rfl ?_
    have hX := HL2.out.below (below_box w2 (.cells #[.string t, .int .i64 z, .int .i64 k.att, .int .i64 k.col, .int .i64 ln] 44))
    have hp := hX.pushFlow (xs := [gl]) (m := n + 1) (y' := putY y t z) (by simp [HN.out]) HGR.out (by rw [show rowsG [gl] = glRow gl from by simp [rowsG], HY.out]; exact HW3.out) HAT.out (W4 := w3.setCell ⟨M, 91, none⟩ (.slice (some ⟨g', 0, none⟩) (n + 1) cap)) (by simp [World.setCell]) (heap_setCell_same w3 M 91 _ _ _ HGK.out) (fun b hb => Below.heap_setCell _ _ _ _ hb) HPY.out (by rw [HPY.out]; exact hX.cel.setFl _ _)
    have hk : ∀ b, K b → b < w.heap.size := fun b hb => (HH.out.apart b hb).1
    exact ⟨rfl, ⟨_, _, _, _, _, _, _, _, _, _, hp.1, fun _ => rfl⟩, ((((Kp.of HB2.out hk).alloc (fun b hb => Nat.lt_of_lt_of_le (hk b hb) HB2.out.size) _).grown HGR.out (fun b hb => ⟨(hX.apart b hb).1, (hX.apart b hb).2.2.2.2.2⟩)).set 91 HH.out.notK _)⟩
end Go.Proofs.YtjohhahfpgfjdaaGreatDoor.Tb
end
