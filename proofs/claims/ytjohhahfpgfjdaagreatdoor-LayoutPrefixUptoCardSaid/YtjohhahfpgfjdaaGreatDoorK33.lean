/- The texts that the laws of layout stand on, part 33. -/
import Derived.Test.YtjohhahfpgfjdaaGreatDoorK5
import Derived.Test.YtjohhahfpgfjdaaGreatDoorK20
import Derived.Test.YtjohhahfpgfjdaaGreatDoorK31
import Derived.Test.YtjohhahfpgfjdaaGreatDoorK32
import Derived.Deep.CutRange
section
namespace Go.Proofs.YtjohhahfpgfjdaaGreatDoor.Tb
open Go.RowKit Go.Maps
set_option linter.unusedVariables false
set_option linter.unusedSimpArgs false
theorem TbL.below {B : Nat} {w w' : World} (h : TbL B w) (hB : B ≤ w.heap.size) (hb : Below w.heap.size w w') : TbL B w' := by
  obtain ⟨w0, h1, h2, h3⟩ := h
  exact ⟨w0, h1, h2, h3.trans (hb.mono hB)⟩
theorem rdz_ir {P : Nat → Prop} {w : World} {v : Value} {zs : List Int} (h : Ir.RdZ P w v zs) : RdZ P w v zs := h
set_option maxRecDepth 100000 in
set_option maxHeartbeats 4000000 in
theorem ltake_8 {op : Bool} {B M : Nat} {K : Nat → Prop} {wd : Int} {ch : List S6.Chg} {y : Ly} (n : Int) (t : ByteArray) (ws : List Int) (pw : Option Addr) (l cw : Nat) (w : World) (h : LyI op B M K wd ch y w) (h0 : 0 < y.lo.length) (h18 : y.lo.length < 18) (hls : y.ls.length ≤ 2000) (hn : n < ch.length) :
    Calls Tryz.prog 28 #[.pointer (some ⟨M, 0, none⟩), .agg #[.int .i64 8, .int .i64 n, .string t, .slice pw l cw]] w (LyPost true B M K wd ch (takeY wd ch y ⟨8, n, t, ws⟩) (.tuple #[]) w) := by
  have HEQ : Hid (takeY wd ch y ⟨8, n, t, ws⟩ = { (beginY ch y n : Ly) with ah := 8 }) := Lib.hid (by simp [takeY, stepY, tabB', nlB])
  rw [HEQ.out]
  have hbx := below_box w (.cells #[.int .i64 8, .int .i64 n, .string t, .slice pw l cw] 53)
  have hG := h.grow hbx
  have HLT := Lib.hid (fun b hb => h.lt b hb)
  have HBW := Lib.hid (show B ≤ w.heap.size by have := h.bounds; omega)
  obtain ⟨K2, hK2⟩ : ∃ K2 : Nat → Prop, (fun b => K b ∨ (w.heap.size ≤ b ∧ b < (w.alloc (.cells #[.int .i64 8, .int .i64 n, .string t, .slice pw l cw] 53)).heap.size)) = K2 := ⟨_, rfl⟩
  have HKK := Lib.hid (show ∀ b, K b → K2 b from fun b hb => by rw [← hK2]; exact .inl hb)
  have HKB2 := Lib.hid (show K2 w.heap.size by rw [← hK2]; exact .inr ⟨Nat.le_refl _, by simp⟩)
  rw [hK2] at hG
  have HX := Lib.hid (heap_alloc_new w (.cells #[.int .i64 8, .int .i64 n, .string t, .slice pw l cw] 53))
  have HBX := Lib.hid hbx
  have HC := Lib.hid (beginPara_pro n _ hG h0 h18 hls hn)
  obtain ⟨Y1, hY1⟩ : ∃ Y1 : Ly, (beginY ch y n : Ly) = Y1 := ⟨_, rfl⟩
  rw [hY1] at HC ⊢
  clear hG hK2 hbx hY1 HEQ h h0 h18 hls hn
  go_enter Tryz.func28, Tryz.ntmps28
  go_wp2_with fail
  refine HC.out.mono ?_
  rintro e w1 ⟨rfl, h1, hk1⟩
  have hx1 := (hk1.block _ HKB2.out).trans HX.out
  have d0 : w1.cell? ⟨w.heap.size, 0, none⟩ = some (.int .i64 8) := by rw [cell_of_row _ _ _ _ _ _ hx1]; rfl
  have HK1 := Lib.hid ((Kp.of HBX.out (fun b hb => HLT.out b hb)).trans (hk1.mono HKK.out))
  obtain ⟨vh, vl, vk, vc, ve, vf, vo, vs, cs, c, h, h2⟩ := h1
  have HH := Lib.hid h
  have HO := Lib.hid h2
  have f92 := h.free 92
  obtain ⟨u92, q92⟩ := h.old (j := 92) (by omega)
  clear h h2 hk1 hx1
  go_wp2_with fail
  first | go_end0 | refine bodyPost_ret (results_none rfl _ _ _) rfl ?_
  have E := HH.out.ed.set 92 (.int .i64 8)
  have h5 := HH.out.edit (y' := { Y1 with ah := 8 }) E (HH.out.cel.setAh 8) rfl rfl rfl rfl rfl
  exact ⟨rfl, LyI.less ⟨_, _, _, _, _, _, _, _, _, _, h5, fun e => by first | exact HO.out e | exact HO.out trivial | cases e⟩ HKK.out, HK1.out.trans ((E.kp HH.out.notK).mono HKK.out)⟩
set_option maxRecDepth 100000 in
set_option maxHeartbeats 4000000 in
theorem ltake_1 {B M : Nat} {K : Nat → Prop} {wd : Int} {ch : List S6.Chg} {y : Ly} (n : Int) (t : ByteArray) (ws : List Int) (pw : Option Addr) (l cw : Nat) (w : World) (h : LyI true B M K wd ch y w) (h0 : 0 < y.lo.length) (hn : y.fl.length + t.size ≤ 900000) :
    Calls Tryz.prog 28 #[.pointer (some ⟨M, 0, none⟩), .agg #[.int .i64 1, .int .i64 n, .string t, .slice pw l cw]] w (LyPost true B M K wd ch (takeY wd ch y ⟨1, n, t, ws⟩) (.tuple #[]) w) := by
  have HEQ : Hid (takeY wd ch y ⟨1, n, t, ws⟩ = { (textY y t : Ly) with ah := 1 }) := Lib.hid (by simp [takeY, stepY, tabB', nlB])
  rw [HEQ.out]
  have hbx := below_box w (.cells #[.int .i64 1, .int .i64 n, .string t, .slice pw l cw] 53)
  have hG := h.grow hbx
  have HLT := Lib.hid (fun b hb => h.lt b hb)
  have HBW := Lib.hid (show B ≤ w.heap.size by have := h.bounds; omega)
  obtain ⟨K2, hK2⟩ : ∃ K2 : Nat → Prop, (fun b => K b ∨ (w.heap.size ≤ b ∧ b < (w.alloc (.cells #[.int .i64 1, .int .i64 n, .string t, .slice pw l cw] 53)).heap.size)) = K2 := ⟨_, rfl⟩
  have HKK := Lib.hid (show ∀ b, K b → K2 b from fun b hb => by rw [← hK2]; exact .inl hb)
  have HKB2 := Lib.hid (show K2 w.heap.size by rw [← hK2]; exact .inr ⟨Nat.le_refl _, by simp⟩)
  rw [hK2] at hG
  have HX := Lib.hid (heap_alloc_new w (.cells #[.int .i64 1, .int .i64 n, .string t, .slice pw l cw] 53))
  have HBX := Lib.hid hbx
  have HC := Lib.hid (putText_pro t _ hG h0 hn)
  obtain ⟨Y1, hY1⟩ : ∃ Y1 : Ly, (textY y t : Ly) = Y1 := ⟨_, rfl⟩
  rw [hY1] at HC ⊢
  clear hG hK2 hbx hY1 HEQ h h0 hn
  go_enter Tryz.func28, Tryz.ntmps28
  go_wp2_with fail
  refine HC.out.mono ?_
  rintro e w1 ⟨rfl, h1, hk1⟩
  have hx1 := (hk1.block _ HKB2.out).trans HX.out
  have d0 : w1.cell? ⟨w.heap.size, 0, none⟩ = some (.int .i64 1) := by rw [cell_of_row _ _ _ _ _ _ hx1]; rfl
  have HK1 := Lib.hid ((Kp.of HBX.out (fun b hb => HLT.out b hb)).trans (hk1.mono HKK.out))
  obtain ⟨vh, vl, vk, vc, ve, vf, vo, vs, cs, c, h, h2⟩ := h1
  have HH := Lib.hid h
  have HO := Lib.hid h2
  have f92 := h.free 92
  obtain ⟨u92, q92⟩ := h.old (j := 92) (by omega)
  clear h h2 hk1 hx1
  go_wp2_with fail
  first | go_end0 | refine bodyPost_ret (results_none rfl _ _ _) rfl ?_
  have E := HH.out.ed.set 92 (.int .i64 1)
  have h5 := HH.out.edit (y' := { Y1 with ah := 1 }) E (HH.out.cel.setAh 1) rfl rfl rfl rfl rfl
  exact ⟨rfl, LyI.less ⟨_, _, _, _, _, _, _, _, _, _, h5, fun e => by first | exact HO.out e | exact HO.out trivial | cases e⟩ HKK.out, HK1.out.trans ((E.kp HH.out.notK).mono HKK.out)⟩
set_option maxRecDepth 100000 in
set_option maxHeartbeats 4000000 in
theorem ltake_6 {B M : Nat} {K : Nat → Prop} {wd : Int} {ch : List S6.Chg} {y : Ly} (n : Int) (t : ByteArray) (ws : List Int) (pw : Option Addr) (l cw : Nat) (w : World) (h : LyI true B M K wd ch y w) (h0 : 0 < y.lo.length) (hn : y.fl.length ≤ 900000) :
    Calls Tryz.prog 28 #[.pointer (some ⟨M, 0, none⟩), .agg #[.int .i64 6, .int .i64 n, .string t, .slice pw l cw]] w (LyPost true B M K wd ch (takeY wd ch y ⟨6, n, t, ws⟩) (.tuple #[]) w) := by
  have HEQ : Hid (takeY wd ch y ⟨6, n, t, ws⟩ = { (putY y ⟨#[9]⟩ 1 : Ly) with ah := 6 }) := Lib.hid (by simp [takeY, stepY, tabB', nlB])
  rw [HEQ.out]
  have hbx := below_box w (.cells #[.int .i64 6, .int .i64 n, .string t, .slice pw l cw] 53)
  have hG := h.grow hbx
  have HLT := Lib.hid (fun b hb => h.lt b hb)
  have HBW := Lib.hid (show B ≤ w.heap.size by have := h.bounds; omega)
  obtain ⟨K2, hK2⟩ : ∃ K2 : Nat → Prop, (fun b => K b ∨ (w.heap.size ≤ b ∧ b < (w.alloc (.cells #[.int .i64 6, .int .i64 n, .string t, .slice pw l cw] 53)).heap.size)) = K2 := ⟨_, rfl⟩
  have HKK := Lib.hid (show ∀ b, K b → K2 b from fun b hb => by rw [← hK2]; exact .inl hb)
  have HKB2 := Lib.hid (show K2 w.heap.size by rw [← hK2]; exact .inr ⟨Nat.le_refl _, by simp⟩)
  rw [hK2] at hG
  have HX := Lib.hid (heap_alloc_new w (.cells #[.int .i64 6, .int .i64 n, .string t, .slice pw l cw] 53))
  have HBX := Lib.hid hbx
  have HC := Lib.hid (lput_pro ⟨#[9]⟩ 1 _ hG h0 (by omega))
  obtain ⟨Y1, hY1⟩ : ∃ Y1 : Ly, (putY y ⟨#[9]⟩ 1 : Ly) = Y1 := ⟨_, rfl⟩
  rw [hY1] at HC ⊢
  clear hG hK2 hbx hY1 HEQ h h0 hn
  go_enter Tryz.func28, Tryz.ntmps28
  go_wp2_with fail
  refine HC.out.mono ?_
  rintro e w1 ⟨rfl, h1, hk1⟩
  have hx1 := (hk1.block _ HKB2.out).trans HX.out
  have d0 : w1.cell? ⟨w.heap.size, 0, none⟩ = some (.int .i64 6) := by rw [cell_of_row _ _ _ _ _ _ hx1]; rfl
  have HK1 := Lib.hid ((Kp.of HBX.out (fun b hb => HLT.out b hb)).trans (hk1.mono HKK.out))
  obtain ⟨vh, vl, vk, vc, ve, vf, vo, vs, cs, c, h, h2⟩ := h1
  have HH := Lib.hid h
  have HO := Lib.hid h2
  have f92 := h.free 92
  obtain ⟨u92, q92⟩ := h.old (j := 92) (by omega)
  clear h h2 hk1 hx1
  go_wp2_with fail
  first | go_end0 | refine bodyPost_ret (results_none rfl _ _ _) rfl ?_
  have E := HH.out.ed.set 92 (.int .i64 6)
  have h5 := HH.out.edit (y' := { Y1 with ah := 6 }) E (HH.out.cel.setAh 6) rfl rfl rfl rfl rfl
  exact ⟨rfl, LyI.less ⟨_, _, _, _, _, _, _, _, _, _, h5, fun e => by first | exact HO.out e | exact HO.out trivial | cases e⟩ HKK.out, HK1.out.trans ((E.kp HH.out.notK).mono HKK.out)⟩
set_option maxRecDepth 100000 in
set_option maxHeartbeats 4000000 in
theorem ltake_7 {B M : Nat} {K : Nat → Prop} {wd : Int} {ch : List S6.Chg} {y : Ly} (n : Int) (t : ByteArray) (ws : List Int) (pw : Option Addr) (l cw : Nat) (w : World) (h : LyI true B M K wd ch y w) (h0 : 0 < y.lo.length) (hn : y.fl.length ≤ 900000) :
    Calls Tryz.prog 28 #[.pointer (some ⟨M, 0, none⟩), .agg #[.int .i64 7, .int .i64 n, .string t, .slice pw l cw]] w (LyPost true B M K wd ch (takeY wd ch y ⟨7, n, t, ws⟩) (.tuple #[]) w) := by
  have HEQ : Hid (takeY wd ch y ⟨7, n, t, ws⟩ = { (putY y ⟨#[10]⟩ 1 : Ly) with ah := 7 }) := Lib.hid (by simp [takeY, stepY, tabB', nlB])
  rw [HEQ.out]
  have hbx := below_box w (.cells #[.int .i64 7, .int .i64 n, .string t, .slice pw l cw] 53)
  have hG := h.grow hbx
  have HLT := Lib.hid (fun b hb => h.lt b hb)
  have HBW := Lib.hid (show B ≤ w.heap.size by have := h.bounds; omega)
  obtain ⟨K2, hK2⟩ : ∃ K2 : Nat → Prop, (fun b => K b ∨ (w.heap.size ≤ b ∧ b < (w.alloc (.cells #[.int .i64 7, .int .i64 n, .string t, .slice pw l cw] 53)).heap.size)) = K2 := ⟨_, rfl⟩
  have HKK := Lib.hid (show ∀ b, K b → K2 b from fun b hb => by rw [← hK2]; exact .inl hb)
  have HKB2 := Lib.hid (show K2 w.heap.size by rw [← hK2]; exact .inr ⟨Nat.le_refl _, by simp⟩)
  rw [hK2] at hG
  have HX := Lib.hid (heap_alloc_new w (.cells #[.int .i64 7, .int .i64 n, .string t, .slice pw l cw] 53))
  have HBX := Lib.hid hbx
  have HC := Lib.hid (lput_pro ⟨#[10]⟩ 1 _ hG h0 (by omega))
  obtain ⟨Y1, hY1⟩ : ∃ Y1 : Ly, (putY y ⟨#[10]⟩ 1 : Ly) = Y1 := ⟨_, rfl⟩
  rw [hY1] at HC ⊢
  clear hG hK2 hbx hY1 HEQ h h0 hn
  go_enter Tryz.func28, Tryz.ntmps28
  go_wp2_with fail
  refine HC.out.mono ?_
  rintro e w1 ⟨rfl, h1, hk1⟩
  have hx1 := (hk1.block _ HKB2.out).trans HX.out
  have d0 : w1.cell? ⟨w.heap.size, 0, none⟩ = some (.int .i64 7) := by rw [cell_of_row _ _ _ _ _ _ hx1]; rfl
  have HK1 := Lib.hid ((Kp.of HBX.out (fun b hb => HLT.out b hb)).trans (hk1.mono HKK.out))
  obtain ⟨vh, vl, vk, vc, ve, vf, vo, vs, cs, c, h, h2⟩ := h1
  have HH := Lib.hid h
  have HO := Lib.hid h2
  have f92 := h.free 92
  obtain ⟨u92, q92⟩ := h.old (j := 92) (by omega)
  clear h h2 hk1 hx1
  go_wp2_with fail
  first | go_end0 | refine bodyPost_ret (results_none rfl _ _ _) rfl ?_
  have E := HH.out.ed.set 92 (.int .i64 7)
  have h5 := HH.out.edit (y' := { Y1 with ah := 7 }) E (HH.out.cel.setAh 7) rfl rfl rfl rfl rfl
  exact ⟨rfl, LyI.less ⟨_, _, _, _, _, _, _, _, _, _, h5, fun e => by first | exact HO.out e | exact HO.out trivial | cases e⟩ HKK.out, HK1.out.trans ((E.kp HH.out.notK).mono HKK.out)⟩
set_option maxRecDepth 100000 in
set_option maxHeartbeats 4000000 in
theorem ltake_3 {B M : Nat} {K : Nat → Prop} {wd : Int} {ch : List S6.Chg} {y : Ly} (n : Int) (t : ByteArray) (ws : List Int) (pw : Option Addr) (l cw : Nat) (w : World) (h : LyI true B M K wd ch y w) (h0 : 0 < y.lo.length) (h18 : y.lo.length < 18) (hn : y.lk.length ≤ 1000000) :
    Calls Tryz.prog 28 #[.pointer (some ⟨M, 0, none⟩), .agg #[.int .i64 3, .int .i64 n, .string t, .slice pw l cw]] w (LyPost true B M K wd ch (takeY wd ch y ⟨3, n, t, ws⟩) (.tuple #[]) w) := by
  have HEQ : Hid (takeY wd ch y ⟨3, n, t, ws⟩ = { (linkY y 0 n : Ly) with ah := 3 }) := Lib.hid (by simp [takeY, stepY, tabB', nlB])
  rw [HEQ.out]
  have hbx := below_box w (.cells #[.int .i64 3, .int .i64 n, .string t, .slice pw l cw] 53)
  have hG := h.grow hbx
  have HLT := Lib.hid (fun b hb => h.lt b hb)
  have HBW := Lib.hid (show B ≤ w.heap.size by have := h.bounds; omega)
  obtain ⟨K2, hK2⟩ : ∃ K2 : Nat → Prop, (fun b => K b ∨ (w.heap.size ≤ b ∧ b < (w.alloc (.cells #[.int .i64 3, .int .i64 n, .string t, .slice pw l cw] 53)).heap.size)) = K2 := ⟨_, rfl⟩
  have HKK := Lib.hid (show ∀ b, K b → K2 b from fun b hb => by rw [← hK2]; exact .inl hb)
  have HKB2 := Lib.hid (show K2 w.heap.size by rw [← hK2]; exact .inr ⟨Nat.le_refl _, by simp⟩)
  rw [hK2] at hG
  have HX := Lib.hid (heap_alloc_new w (.cells #[.int .i64 3, .int .i64 n, .string t, .slice pw l cw] 53))
  have HBX := Lib.hid hbx
  have HC := Lib.hid (beginLink_pro 0 n _ hG h0 h18 hn)
  obtain ⟨Y1, hY1⟩ : ∃ Y1 : Ly, (linkY y 0 n : Ly) = Y1 := ⟨_, rfl⟩
  rw [hY1] at HC ⊢
  clear hG hK2 hbx hY1 HEQ h h0 h18 hn
  go_enter Tryz.func28, Tryz.ntmps28
  go_wp2_with fail
  refine HC.out.mono ?_
  rintro e w1 ⟨rfl, h1, hk1⟩
  have hx1 := (hk1.block _ HKB2.out).trans HX.out
  have d0 : w1.cell? ⟨w.heap.size, 0, none⟩ = some (.int .i64 3) := by rw [cell_of_row _ _ _ _ _ _ hx1]; rfl
  have HK1 := Lib.hid ((Kp.of HBX.out (fun b hb => HLT.out b hb)).trans (hk1.mono HKK.out))
  obtain ⟨vh, vl, vk, vc, ve, vf, vo, vs, cs, c, h, h2⟩ := h1
  have HH := Lib.hid h
  have HO := Lib.hid h2
  have f92 := h.free 92
  obtain ⟨u92, q92⟩ := h.old (j := 92) (by omega)
  clear h h2 hk1 hx1
  go_wp2_with fail
  first | go_end0 | refine bodyPost_ret (results_none rfl _ _ _) rfl ?_
  have E := HH.out.ed.set 92 (.int .i64 3)
  have h5 := HH.out.edit (y' := { Y1 with ah := 3 }) E (HH.out.cel.setAh 3) rfl rfl rfl rfl rfl
  exact ⟨rfl, LyI.less ⟨_, _, _, _, _, _, _, _, _, _, h5, fun e => by first | exact HO.out e | exact HO.out trivial | cases e⟩ HKK.out, HK1.out.trans ((E.kp HH.out.notK).mono HKK.out)⟩
set_option maxRecDepth 100000 in
set_option maxHeartbeats 4000000 in
theorem ltake_4 {B M : Nat} {K : Nat → Prop} {wd : Int} {ch : List S6.Chg} {y : Ly} (n : Int) (t : ByteArray) (ws : List Int) (pw : Option Addr) (l cw : Nat) (w : World) (h : LyI true B M K wd ch y w) (h0 : 0 < y.lo.length) (h18 : y.lo.length < 18) (hn : y.lk.length ≤ 1000000) :
    Calls Tryz.prog 28 #[.pointer (some ⟨M, 0, none⟩), .agg #[.int .i64 4, .int .i64 n, .string t, .slice pw l cw]] w (LyPost true B M K wd ch (takeY wd ch y ⟨4, n, t, ws⟩) (.tuple #[]) w) := by
  have HEQ : Hid (takeY wd ch y ⟨4, n, t, ws⟩ = { (linkY y 1 n : Ly) with ah := 4 }) := Lib.hid (by simp [takeY, stepY, tabB', nlB])
  rw [HEQ.out]
  have hbx := below_box w (.cells #[.int .i64 4, .int .i64 n, .string t, .slice pw l cw] 53)
  have hG := h.grow hbx
  have HLT := Lib.hid (fun b hb => h.lt b hb)
  have HBW := Lib.hid (show B ≤ w.heap.size by have := h.bounds; omega)
  obtain ⟨K2, hK2⟩ : ∃ K2 : Nat → Prop, (fun b => K b ∨ (w.heap.size ≤ b ∧ b < (w.alloc (.cells #[.int .i64 4, .int .i64 n, .string t, .slice pw l cw] 53)).heap.size)) = K2 := ⟨_, rfl⟩
  have HKK := Lib.hid (show ∀ b, K b → K2 b from fun b hb => by rw [← hK2]; exact .inl hb)
  have HKB2 := Lib.hid (show K2 w.heap.size by rw [← hK2]; exact .inr ⟨Nat.le_refl _, by simp⟩)
  rw [hK2] at hG
  have HX := Lib.hid (heap_alloc_new w (.cells #[.int .i64 4, .int .i64 n, .string t, .slice pw l cw] 53))
  have HBX := Lib.hid hbx
  have HC := Lib.hid (beginLink_pro 1 n _ hG h0 h18 hn)
  obtain ⟨Y1, hY1⟩ : ∃ Y1 : Ly, (linkY y 1 n : Ly) = Y1 := ⟨_, rfl⟩
  rw [hY1] at HC ⊢
  clear hG hK2 hbx hY1 HEQ h h0 h18 hn
  go_enter Tryz.func28, Tryz.ntmps28
  go_wp2_with fail
  refine HC.out.mono ?_
  rintro e w1 ⟨rfl, h1, hk1⟩
  have hx1 := (hk1.block _ HKB2.out).trans HX.out
  have d0 : w1.cell? ⟨w.heap.size, 0, none⟩ = some (.int .i64 4) := by rw [cell_of_row _ _ _ _ _ _ hx1]; rfl
  have HK1 := Lib.hid ((Kp.of HBX.out (fun b hb => HLT.out b hb)).trans (hk1.mono HKK.out))
  obtain ⟨vh, vl, vk, vc, ve, vf, vo, vs, cs, c, h, h2⟩ := h1
  have HH := Lib.hid h
  have HO := Lib.hid h2
  have f92 := h.free 92
  obtain ⟨u92, q92⟩ := h.old (j := 92) (by omega)
  clear h h2 hk1 hx1
  go_wp2_with fail
  first | go_end0 | refine bodyPost_ret (results_none rfl _ _ _) rfl ?_
  have E := HH.out.ed.set 92 (.int .i64 4)
  have h5 := HH.out.edit (y' := { Y1 with ah := 4 }) E (HH.out.cel.setAh 4) rfl rfl rfl rfl rfl
  exact ⟨rfl, LyI.less ⟨_, _, _, _, _, _, _, _, _, _, h5, fun e => by first | exact HO.out e | exact HO.out trivial | cases e⟩ HKK.out, HK1.out.trans ((E.kp HH.out.notK).mono HKK.out)⟩
set_option maxRecDepth 100000 in
set_option maxHeartbeats 4000000 in
theorem ltake_5 {op : Bool} {B M : Nat} {K : Nat → Prop} {wd : Int} {ch : List S6.Chg} {y : Ly} (n : Int) (t : ByteArray) (ws : List Int) (pw : Option Addr) (l cw : Nat) (w : World) (h : LyI op B M K wd ch y w) (h0 : 0 < y.lo.length) :
    Calls Tryz.prog 28 #[.pointer (some ⟨M, 0, none⟩), .agg #[.int .i64 5, .int .i64 n, .string t, .slice pw l cw]] w (LyPost op B M K wd ch (takeY wd ch y ⟨5, n, t, ws⟩) (.tuple #[]) w) := by
  have HEQ : Hid (takeY wd ch y ⟨5, n, t, ws⟩ = { (closeY y : Ly) with ah := 5 }) := Lib.hid (by simp [takeY, stepY, tabB', nlB])
  rw [HEQ.out]
  have hbx := below_box w (.cells #[.int .i64 5, .int .i64 n, .string t, .slice pw l cw] 53)
  have hG := h.grow hbx
  have HLT := Lib.hid (fun b hb => h.lt b hb)
  have HBW := Lib.hid (show B ≤ w.heap.size by have := h.bounds; omega)
  obtain ⟨K2, hK2⟩ : ∃ K2 : Nat → Prop, (fun b => K b ∨ (w.heap.size ≤ b ∧ b < (w.alloc (.cells #[.int .i64 5, .int .i64 n, .string t, .slice pw l cw] 53)).heap.size)) = K2 := ⟨_, rfl⟩
  have HKK := Lib.hid (show ∀ b, K b → K2 b from fun b hb => by rw [← hK2]; exact .inl hb)
  have HKB2 := Lib.hid (show K2 w.heap.size by rw [← hK2]; exact .inr ⟨Nat.le_refl _, by simp⟩)
  rw [hK2] at hG
  have HX := Lib.hid (heap_alloc_new w (.cells #[.int .i64 5, .int .i64 n, .string t, .slice pw l cw] 53))
  have HBX := Lib.hid hbx
  have HC := Lib.hid (close_pro _ hG h0)
  obtain ⟨Y1, hY1⟩ : ∃ Y1 : Ly, (closeY y : Ly) = Y1 := ⟨_, rfl⟩
  rw [hY1] at HC ⊢
  clear hG hK2 hbx hY1 HEQ h h0
  go_enter Tryz.func28, Tryz.ntmps28
  go_wp2_with fail
  refine HC.out.mono ?_
  rintro e w1 ⟨rfl, h1, hk1⟩
  have hx1 := (hk1.block _ HKB2.out).trans HX.out
  have d0 : w1.cell? ⟨w.heap.size, 0, none⟩ = some (.int .i64 5) := by rw [cell_of_row _ _ _ _ _ _ hx1]; rfl
  have HK1 := Lib.hid ((Kp.of HBX.out (fun b hb => HLT.out b hb)).trans (hk1.mono HKK.out))
  obtain ⟨vh, vl, vk, vc, ve, vf, vo, vs, cs, c, h, h2⟩ := h1
  have HH := Lib.hid h
  have HO := Lib.hid h2
  have f92 := h.free 92
  obtain ⟨u92, q92⟩ := h.old (j := 92) (by omega)
  clear h h2 hk1 hx1
  go_wp2_with fail
  first | go_end0 | refine bodyPost_ret (results_none rfl _ _ _) rfl ?_
  have E := HH.out.ed.set 92 (.int .i64 5)
  have h5 := HH.out.edit (y' := { Y1 with ah := 5 }) E (HH.out.cel.setAh 5) rfl rfl rfl rfl rfl
  exact ⟨rfl, LyI.less ⟨_, _, _, _, _, _, _, _, _, _, h5, fun e => by first | exact HO.out e | exact HO.out trivial | cases e⟩ HKK.out, HK1.out.trans ((E.kp HH.out.notK).mono HKK.out)⟩
set_option maxRecDepth 100000 in
set_option maxHeartbeats 4000000 in
theorem ltake_9c {B M : Nat} {K : Nat → Prop} {wd : Int} {ch : List S6.Chg} {y : Ly} (n : Int) (t : ByteArray) (ws : List Int) (pw : Option Addr) (l cw : Nat) (w : World) (h : LyI true B M K wd ch y w) (h0 : 0 < y.lo.length) (hc0 : 0 < y.co.length) (hce : y.ce.length ≤ 1000000) :
    Calls Tryz.prog 28 #[.pointer (some ⟨M, 0, none⟩), .agg #[.int .i64 9, .int .i64 n, .string t, .slice pw l cw]] w (LyPost false B M K wd ch (takeY wd ch y ⟨9, n, t, ws⟩) (.tuple #[]) w) := by
  have HEQ : Hid (takeY wd ch y ⟨9, n, t, ws⟩ = { (doneY wd y : Ly) with ah := 9 }) := Lib.hid (by simp [takeY, stepY, tabB', nlB])
  rw [HEQ.out]
  have hbx := below_box w (.cells #[.int .i64 9, .int .i64 n, .string t, .slice pw l cw] 53)
  have hG := h.grow hbx
  have HLT := Lib.hid (fun b hb => h.lt b hb)
  have HBW := Lib.hid (show B ≤ w.heap.size by have := h.bounds; omega)
  obtain ⟨K2, hK2⟩ : ∃ K2 : Nat → Prop, (fun b => K b ∨ (w.heap.size ≤ b ∧ b < (w.alloc (.cells #[.int .i64 9, .int .i64 n, .string t, .slice pw l cw] 53)).heap.size)) = K2 := ⟨_, rfl⟩
  have HKK := Lib.hid (show ∀ b, K b → K2 b from fun b hb => by rw [← hK2]; exact .inl hb)
  have HKB2 := Lib.hid (show K2 w.heap.size by rw [← hK2]; exact .inr ⟨Nat.le_refl _, by simp⟩)
  rw [hK2] at hG
  have HX := Lib.hid (heap_alloc_new w (.cells #[.int .i64 9, .int .i64 n, .string t, .slice pw l cw] 53))
  have HBX := Lib.hid hbx
  have HC := Lib.hid (endCell_pro _ hG h0 hc0 hce)
  obtain ⟨Y1, hY1⟩ : ∃ Y1 : Ly, (doneY wd y : Ly) = Y1 := ⟨_, rfl⟩
  rw [hY1] at HC ⊢
  clear hG hK2 hbx hY1 HEQ h h0 hc0 hce
  go_enter Tryz.func28, Tryz.ntmps28
  go_wp2_with fail
  refine HC.out.mono ?_
  rintro e w1 ⟨rfl, h1, hk1⟩
  have hx1 := (hk1.block _ HKB2.out).trans HX.out
  have d0 : w1.cell? ⟨w.heap.size, 0, none⟩ = some (.int .i64 9) := by rw [cell_of_row _ _ _ _ _ _ hx1]; rfl
  have HK1 := Lib.hid ((Kp.of HBX.out (fun b hb => HLT.out b hb)).trans (hk1.mono HKK.out))
  obtain ⟨vh, vl, vk, vc, ve, vf, vo, vs, cs, c, h, h2⟩ := h1
  have HH := Lib.hid h
  have HO := Lib.hid h2
  have f92 := h.free 92
  obtain ⟨u92, q92⟩ := h.old (j := 92) (by omega)
  clear h h2 hk1 hx1
  go_wp2_with fail
  first | go_end0 | refine bodyPost_ret (results_none rfl _ _ _) rfl ?_
  have E := HH.out.ed.set 92 (.int .i64 9)
  have h5 := HH.out.edit (y' := { Y1 with ah := 9 }) E (HH.out.cel.setAh 9) rfl rfl rfl rfl rfl
  exact ⟨rfl, LyI.less ⟨_, _, _, _, _, _, _, _, _, _, h5, fun e => by first | exact HO.out e | exact HO.out trivial | cases e⟩ HKK.out, HK1.out.trans ((E.kp HH.out.notK).mono HKK.out)⟩
set_option maxRecDepth 100000 in
set_option maxHeartbeats 4000000 in
theorem ltake_9l {B M : Nat} {K : Nat → Prop} {wd : Int} {ch : List S6.Chg} {y : Ly} (n : Int) (t : ByteArray) (ws : List Int) (pw : Option Addr) (l cw : Nat) (w : World) (h : LyI true B M K wd ch y w) (h0 : 0 < y.lo.length) (hc0 : y.co.length = 0) (hw : 10 ≤ wd ∧ wd ≤ 200) (hok : MkOk y) (hfl : y.fl.length ≤ 1000000) :
    Calls Tryz.prog 28 #[.pointer (some ⟨M, 0, none⟩), .agg #[.int .i64 9, .int .i64 n, .string t, .slice pw l cw]] w (LyPost false B M K wd ch (takeY wd ch y ⟨9, n, t, ws⟩) (.tuple #[]) w) := by
  have HEQ : Hid (takeY wd ch y ⟨9, n, t, ws⟩ = { (doneY wd y : Ly) with ah := 9 }) := Lib.hid (by simp [takeY, stepY, tabB', nlB])
  rw [HEQ.out]
  have hbx := below_box w (.cells #[.int .i64 9, .int .i64 n, .string t, .slice pw l cw] 53)
  have hG := h.grow hbx
  have HLT := Lib.hid (fun b hb => h.lt b hb)
  have HBW := Lib.hid (show B ≤ w.heap.size by have := h.bounds; omega)
  obtain ⟨K2, hK2⟩ : ∃ K2 : Nat → Prop, (fun b => K b ∨ (w.heap.size ≤ b ∧ b < (w.alloc (.cells #[.int .i64 9, .int .i64 n, .string t, .slice pw l cw] 53)).heap.size)) = K2 := ⟨_, rfl⟩
  have HKK := Lib.hid (show ∀ b, K b → K2 b from fun b hb => by rw [← hK2]; exact .inl hb)
  have HKB2 := Lib.hid (show K2 w.heap.size by rw [← hK2]; exact .inr ⟨Nat.le_refl _, by simp⟩)
  rw [hK2] at hG
  have HX := Lib.hid (heap_alloc_new w (.cells #[.int .i64 9, .int .i64 n, .string t, .slice pw l cw] 53))
  have HBX := Lib.hid hbx
  have HC := Lib.hid (endLines_pro _ hG h0 hc0 hw hok hfl)
  obtain ⟨Y1, hY1⟩ : ∃ Y1 : Ly, (doneY wd y : Ly) = Y1 := ⟨_, rfl⟩
  rw [hY1] at HC ⊢
  clear hG hK2 hbx hY1 HEQ h h0 hc0 hok hfl
  go_enter Tryz.func28, Tryz.ntmps28
  go_wp2_with fail
  refine HC.out.mono ?_
  rintro e w1 ⟨rfl, h1, hk1⟩
  have hx1 := (hk1.block _ HKB2.out).trans HX.out
  have d0 : w1.cell? ⟨w.heap.size, 0, none⟩ = some (.int .i64 9) := by rw [cell_of_row _ _ _ _ _ _ hx1]; rfl
  have HK1 := Lib.hid ((Kp.of HBX.out (fun b hb => HLT.out b hb)).trans (hk1.mono HKK.out))
  obtain ⟨vh, vl, vk, vc, ve, vf, vo, vs, cs, c, h, h2⟩ := h1
  have HH := Lib.hid h
  have HO := Lib.hid h2
  have f92 := h.free 92
  obtain ⟨u92, q92⟩ := h.old (j := 92) (by omega)
  clear h h2 hk1 hx1
  go_wp2_with fail
  first | go_end0 | refine bodyPost_ret (results_none rfl _ _ _) rfl ?_
  have E := HH.out.ed.set 92 (.int .i64 9)
  have h5 := HH.out.edit (y' := { Y1 with ah := 9 }) E (HH.out.cel.setAh 9) rfl rfl rfl rfl rfl
  exact ⟨rfl, LyI.less ⟨_, _, _, _, _, _, _, _, _, _, h5, fun e => by first | exact HO.out e | exact HO.out trivial | cases e⟩ HKK.out, HK1.out.trans ((E.kp HH.out.notK).mono HKK.out)⟩
set_option maxRecDepth 100000 in
set_option maxHeartbeats 4000000 in
theorem ltake_10 {op : Bool} {B M : Nat} {K : Nat → Prop} {wd : Int} {ch : List S6.Chg} {y : Ly} (n : Int) (t : ByteArray) (ws : List Int) (pw : Option Addr) (l cw : Nat) (w : World) (h : LyI op B M K wd ch y w) (hok : MkOk y) (h8 : y.li.length < 8) :
    Calls Tryz.prog 28 #[.pointer (some ⟨M, 0, none⟩), .agg #[.int .i64 10, .int .i64 n, .string t, .slice pw l cw]] w (LyPost op B M K wd ch (takeY wd ch y ⟨10, n, t, ws⟩) (.tuple #[]) w) := by
  have HEQ : Hid (takeY wd ch y ⟨10, n, t, ws⟩ = { (listY y n : Ly) with ah := 10 }) := Lib.hid (by simp [takeY, stepY, tabB', nlB])
  rw [HEQ.out]
  have hbx := below_box w (.cells #[.int .i64 10, .int .i64 n, .string t, .slice pw l cw] 53)
  have hG := h.grow hbx
  have HLT := Lib.hid (fun b hb => h.lt b hb)
  have HBW := Lib.hid (show B ≤ w.heap.size by have := h.bounds; omega)
  obtain ⟨K2, hK2⟩ : ∃ K2 : Nat → Prop, (fun b => K b ∨ (w.heap.size ≤ b ∧ b < (w.alloc (.cells #[.int .i64 10, .int .i64 n, .string t, .slice pw l cw] 53)).heap.size)) = K2 := ⟨_, rfl⟩
  have HKK := Lib.hid (show ∀ b, K b → K2 b from fun b hb => by rw [← hK2]; exact .inl hb)
  have HKB2 := Lib.hid (show K2 w.heap.size by rw [← hK2]; exact .inr ⟨Nat.le_refl _, by simp⟩)
  rw [hK2] at hG
  have HX := Lib.hid (heap_alloc_new w (.cells #[.int .i64 10, .int .i64 n, .string t, .slice pw l cw] 53))
  have HBX := Lib.hid hbx
  have HC := Lib.hid (beginList_pro n _ hG hok h8)
  obtain ⟨Y1, hY1⟩ : ∃ Y1 : Ly, (listY y n : Ly) = Y1 := ⟨_, rfl⟩
  rw [hY1] at HC ⊢
  clear hG hK2 hbx hY1 HEQ h hok h8
  go_enter Tryz.func28, Tryz.ntmps28
  go_wp2_with fail
  refine HC.out.mono ?_
  rintro e w1 ⟨rfl, h1, hk1⟩
  have hx1 := (hk1.block _ HKB2.out).trans HX.out
  have d0 : w1.cell? ⟨w.heap.size, 0, none⟩ = some (.int .i64 10) := by rw [cell_of_row _ _ _ _ _ _ hx1]; rfl
  have HK1 := Lib.hid ((Kp.of HBX.out (fun b hb => HLT.out b hb)).trans (hk1.mono HKK.out))
  obtain ⟨vh, vl, vk, vc, ve, vf, vo, vs, cs, c, h, h2⟩ := h1
  have HH := Lib.hid h
  have HO := Lib.hid h2
  have f92 := h.free 92
  obtain ⟨u92, q92⟩ := h.old (j := 92) (by omega)
  clear h h2 hk1 hx1
  go_wp2_with fail
  first | go_end0 | refine bodyPost_ret (results_none rfl _ _ _) rfl ?_
  have E := HH.out.ed.set 92 (.int .i64 10)
  have h5 := HH.out.edit (y' := { Y1 with ah := 10 }) E (HH.out.cel.setAh 10) rfl rfl rfl rfl rfl
  exact ⟨rfl, LyI.less ⟨_, _, _, _, _, _, _, _, _, _, h5, fun e => by first | exact HO.out e | exact HO.out trivial | cases e⟩ HKK.out, HK1.out.trans ((E.kp HH.out.notK).mono HKK.out)⟩
set_option maxRecDepth 100000 in
set_option maxHeartbeats 4000000 in
theorem ltake_11 {op : Bool} {B M : Nat} {K : Nat → Prop} {wd : Int} {ch : List S6.Chg} {y : Ly} (n : Int) (t : ByteArray) (ws : List Int) (pw : Option Addr) (l cw : Nat) (w : World) (h : LyI op B M K wd ch y w) (hT : TbL B w) (hKB : ∀ b, b < B → K b) (hok : MkOk y) (h0 : 0 < y.li.length) (hp : 0 ≤ (lastLi y).place ∧ (lastLi y).place ≤ 200) (hz : 0 ≤ (lastLi y).items ∧ (lastLi y).items ≤ 1000000000) (hw : 10 ≤ wd ∧ wd ≤ 200) :
    Calls Tryz.prog 28 #[.pointer (some ⟨M, 0, none⟩), .agg #[.int .i64 11, .int .i64 n, .string t, .slice pw l cw]] w (LyPost op B M K wd ch (takeY wd ch y ⟨11, n, t, ws⟩) (.tuple #[]) w) := by
  have HEQ : Hid (takeY wd ch y ⟨11, n, t, ws⟩ = { (itemY wd y : Ly) with ah := 11 }) := Lib.hid (by simp [takeY, stepY, tabB', nlB])
  rw [HEQ.out]
  have hbx := below_box w (.cells #[.int .i64 11, .int .i64 n, .string t, .slice pw l cw] 53)
  have hG := h.grow hbx
  have HLT := Lib.hid (fun b hb => h.lt b hb)
  have HBW := Lib.hid (show B ≤ w.heap.size by have := h.bounds; omega)
  obtain ⟨K2, hK2⟩ : ∃ K2 : Nat → Prop, (fun b => K b ∨ (w.heap.size ≤ b ∧ b < (w.alloc (.cells #[.int .i64 11, .int .i64 n, .string t, .slice pw l cw] 53)).heap.size)) = K2 := ⟨_, rfl⟩
  have HKK := Lib.hid (show ∀ b, K b → K2 b from fun b hb => by rw [← hK2]; exact .inl hb)
  have HKB2 := Lib.hid (show K2 w.heap.size by rw [← hK2]; exact .inr ⟨Nat.le_refl _, by simp⟩)
  rw [hK2] at hG
  have HX := Lib.hid (heap_alloc_new w (.cells #[.int .i64 11, .int .i64 n, .string t, .slice pw l cw] 53))
  have HBX := Lib.hid hbx
  have HC := Lib.hid (beginItem_pro _ (hT.below HBW.out hbx) (fun b hb => HKK.out b (hKB b hb)) hG hok h0 hp hz hw)
  obtain ⟨Y1, hY1⟩ : ∃ Y1 : Ly, (itemY wd y : Ly) = Y1 := ⟨_, rfl⟩
  rw [hY1] at HC ⊢
  clear hG hK2 hbx hY1 HEQ h hT hKB hok h0 hp hz
  go_enter Tryz.func28, Tryz.ntmps28
  go_wp2_with fail
  refine HC.out.mono ?_
  rintro e w1 ⟨rfl, h1, hk1⟩
  have hx1 := (hk1.block _ HKB2.out).trans HX.out
  have d0 : w1.cell? ⟨w.heap.size, 0, none⟩ = some (.int .i64 11) := by rw [cell_of_row _ _ _ _ _ _ hx1]; rfl
  have HK1 := Lib.hid ((Kp.of HBX.out (fun b hb => HLT.out b hb)).trans (hk1.mono HKK.out))
  obtain ⟨vh, vl, vk, vc, ve, vf, vo, vs, cs, c, h, h2⟩ := h1
  have HH := Lib.hid h
  have HO := Lib.hid h2
  have f92 := h.free 92
  obtain ⟨u92, q92⟩ := h.old (j := 92) (by omega)
  clear h h2 hk1 hx1
  go_wp2_with fail
  first | go_end0 | refine bodyPost_ret (results_none rfl _ _ _) rfl ?_
  have E := HH.out.ed.set 92 (.int .i64 11)
  have h5 := HH.out.edit (y' := { Y1 with ah := 11 }) E (HH.out.cel.setAh 11) rfl rfl rfl rfl rfl
  exact ⟨rfl, LyI.less ⟨_, _, _, _, _, _, _, _, _, _, h5, fun e => by first | exact HO.out e | exact HO.out trivial | cases e⟩ HKK.out, HK1.out.trans ((E.kp HH.out.notK).mono HKK.out)⟩
set_option maxRecDepth 100000 in
set_option maxHeartbeats 4000000 in
theorem ltake_13 {op : Bool} {B M : Nat} {K : Nat → Prop} {wd : Int} {ch : List S6.Chg} {y : Ly} (n : Int) (t : ByteArray) (ws : List Int) (pw : Option Addr) (l cw : Nat) (w : World) (h : LyI op B M K wd ch y w) (hls : y.ls.length ≤ 2000) (hce : ∀ f ∈ y.ce, f.length ≤ 1000000) :
    Calls Tryz.prog 28 #[.pointer (some ⟨M, 0, none⟩), .agg #[.int .i64 13, .int .i64 n, .string t, .slice pw l cw]] w (LyPost op B M K wd ch (takeY wd ch y ⟨13, n, t, ws⟩) (.tuple #[]) w) := by
  have HEQ : Hid (takeY wd ch y ⟨13, n, t, ws⟩ = { (rowY y : Ly) with ah := 13 }) := Lib.hid (by simp [takeY, stepY, tabB', nlB])
  rw [HEQ.out]
  have hbx := below_box w (.cells #[.int .i64 13, .int .i64 n, .string t, .slice pw l cw] 53)
  have hG := h.grow hbx
  have HLT := Lib.hid (fun b hb => h.lt b hb)
  have HBW := Lib.hid (show B ≤ w.heap.size by have := h.bounds; omega)
  obtain ⟨K2, hK2⟩ : ∃ K2 : Nat → Prop, (fun b => K b ∨ (w.heap.size ≤ b ∧ b < (w.alloc (.cells #[.int .i64 13, .int .i64 n, .string t, .slice pw l cw] 53)).heap.size)) = K2 := ⟨_, rfl⟩
  have HKK := Lib.hid (show ∀ b, K b → K2 b from fun b hb => by rw [← hK2]; exact .inl hb)
  have HKB2 := Lib.hid (show K2 w.heap.size by rw [← hK2]; exact .inr ⟨Nat.le_refl _, by simp⟩)
  rw [hK2] at hG
  have HX := Lib.hid (heap_alloc_new w (.cells #[.int .i64 13, .int .i64 n, .string t, .slice pw l cw] 53))
  have HBX := Lib.hid hbx
  have HC := Lib.hid (tellRow_pro _ hG hls hce)
  obtain ⟨Y1, hY1⟩ : ∃ Y1 : Ly, (rowY y : Ly) = Y1 := ⟨_, rfl⟩
  rw [hY1] at HC ⊢
  clear hG hK2 hbx hY1 HEQ h hls hce
  go_enter Tryz.func28, Tryz.ntmps28
  go_wp2_with fail
  refine HC.out.mono ?_
  rintro e w1 ⟨rfl, h1, hk1⟩
  have hx1 := (hk1.block _ HKB2.out).trans HX.out
  have d0 : w1.cell? ⟨w.heap.size, 0, none⟩ = some (.int .i64 13) := by rw [cell_of_row _ _ _ _ _ _ hx1]; rfl
  have HK1 := Lib.hid ((Kp.of HBX.out (fun b hb => HLT.out b hb)).trans (hk1.mono HKK.out))
  obtain ⟨vh, vl, vk, vc, ve, vf, vo, vs, cs, c, h, h2⟩ := h1
  have HH := Lib.hid h
  have HO := Lib.hid h2
  have f92 := h.free 92
  obtain ⟨u92, q92⟩ := h.old (j := 92) (by omega)
  clear h h2 hk1 hx1
  go_wp2_with fail
  first | go_end0 | refine bodyPost_ret (results_none rfl _ _ _) rfl ?_
  have E := HH.out.ed.set 92 (.int .i64 13)
  have h5 := HH.out.edit (y' := { Y1 with ah := 13 }) E (HH.out.cel.setAh 13) rfl rfl rfl rfl rfl
  exact ⟨rfl, LyI.less ⟨_, _, _, _, _, _, _, _, _, _, h5, fun e => by first | exact HO.out e | exact HO.out trivial | cases e⟩ HKK.out, HK1.out.trans ((E.kp HH.out.notK).mono HKK.out)⟩
set_option maxRecDepth 100000 in
set_option maxHeartbeats 4000000 in
theorem ltake_14t {op : Bool} {B M : Nat} {K : Nat → Prop} {wd : Int} {ch : List S6.Chg} {y : Ly} (n : Int) (t : ByteArray) (ws : List Int) (pw : Option Addr) (l cw : Nat) (w : World) (h : LyI op B M K wd ch y w) (hls : y.ls.length ≤ 2000) (hce : ∀ f ∈ y.ce, f.length ≤ 1000000) (hc0 : 0 < y.co.length) :
    Calls Tryz.prog 28 #[.pointer (some ⟨M, 0, none⟩), .agg #[.int .i64 14, .int .i64 n, .string t, .slice pw l cw]] w (LyPost op B M K wd ch (takeY wd ch y ⟨14, n, t, ws⟩) (.tuple #[]) w) := by
  have HEQ : Hid (takeY wd ch y ⟨14, n, t, ws⟩ = { (endY y : Ly) with ah := 14 }) := Lib.hid (by simp [takeY, stepY, tabB', nlB])
  rw [HEQ.out]
  have hbx := below_box w (.cells #[.int .i64 14, .int .i64 n, .string t, .slice pw l cw] 53)
  have hG := h.grow hbx
  have HLT := Lib.hid (fun b hb => h.lt b hb)
  have HBW := Lib.hid (show B ≤ w.heap.size by have := h.bounds; omega)
  obtain ⟨K2, hK2⟩ : ∃ K2 : Nat → Prop, (fun b => K b ∨ (w.heap.size ≤ b ∧ b < (w.alloc (.cells #[.int .i64 14, .int .i64 n, .string t, .slice pw l cw] 53)).heap.size)) = K2 := ⟨_, rfl⟩
  have HKK := Lib.hid (show ∀ b, K b → K2 b from fun b hb => by rw [← hK2]; exact .inl hb)
  have HKB2 := Lib.hid (show K2 w.heap.size by rw [← hK2]; exact .inr ⟨Nat.le_refl _, by simp⟩)
  rw [hK2] at hG
  have HX := Lib.hid (heap_alloc_new w (.cells #[.int .i64 14, .int .i64 n, .string t, .slice pw l cw] 53))
  have HBX := Lib.hid hbx
  have HC := Lib.hid (endTable_pro _ hG hls hce hc0)
  obtain ⟨Y1, hY1⟩ : ∃ Y1 : Ly, (endY y : Ly) = Y1 := ⟨_, rfl⟩
  rw [hY1] at HC ⊢
  clear hG hK2 hbx hY1 HEQ h hls hce hc0
  go_enter Tryz.func28, Tryz.ntmps28
  go_wp2_with fail
  refine HC.out.mono ?_
  rintro e w1 ⟨rfl, h1, hk1⟩
  have hx1 := (hk1.block _ HKB2.out).trans HX.out
  have d0 : w1.cell? ⟨w.heap.size, 0, none⟩ = some (.int .i64 14) := by rw [cell_of_row _ _ _ _ _ _ hx1]; rfl
  have HK1 := Lib.hid ((Kp.of HBX.out (fun b hb => HLT.out b hb)).trans (hk1.mono HKK.out))
  obtain ⟨vh, vl, vk, vc, ve, vf, vo, vs, cs, c, h, h2⟩ := h1
  have HH := Lib.hid h
  have HO := Lib.hid h2
  have f92 := h.free 92
  obtain ⟨u92, q92⟩ := h.old (j := 92) (by omega)
  clear h h2 hk1 hx1
  go_wp2_with fail
  first | go_end0 | refine bodyPost_ret (results_none rfl _ _ _) rfl ?_
  have E := HH.out.ed.set 92 (.int .i64 14)
  have h5 := HH.out.edit (y' := { Y1 with ah := 14 }) E (HH.out.cel.setAh 14) rfl rfl rfl rfl rfl
  exact ⟨rfl, LyI.less ⟨_, _, _, _, _, _, _, _, _, _, h5, fun e => by first | exact HO.out e | exact HO.out trivial | cases e⟩ HKK.out, HK1.out.trans ((E.kp HH.out.notK).mono HKK.out)⟩
set_option maxRecDepth 100000 in
set_option maxHeartbeats 4000000 in
theorem ltake_14l {op : Bool} {B M : Nat} {K : Nat → Prop} {wd : Int} {ch : List S6.Chg} {y : Ly} (n : Int) (t : ByteArray) (ws : List Int) (pw : Option Addr) (l cw : Nat) (w : World) (h : LyI op B M K wd ch y w) (hok : MkOk y) (hc0 : y.co.length = 0) (h0 : 0 < y.li.length) :
    Calls Tryz.prog 28 #[.pointer (some ⟨M, 0, none⟩), .agg #[.int .i64 14, .int .i64 n, .string t, .slice pw l cw]] w (LyPost op B M K wd ch (takeY wd ch y ⟨14, n, t, ws⟩) (.tuple #[]) w) := by
  have HEQ : Hid (takeY wd ch y ⟨14, n, t, ws⟩ = { (endY y : Ly) with ah := 14 }) := Lib.hid (by simp [takeY, stepY, tabB', nlB])
  rw [HEQ.out]
  have hbx := below_box w (.cells #[.int .i64 14, .int .i64 n, .string t, .slice pw l cw] 53)
  have hG := h.grow hbx
  have HLT := Lib.hid (fun b hb => h.lt b hb)
  have HBW := Lib.hid (show B ≤ w.heap.size by have := h.bounds; omega)
  obtain ⟨K2, hK2⟩ : ∃ K2 : Nat → Prop, (fun b => K b ∨ (w.heap.size ≤ b ∧ b < (w.alloc (.cells #[.int .i64 14, .int .i64 n, .string t, .slice pw l cw] 53)).heap.size)) = K2 := ⟨_, rfl⟩
  have HKK := Lib.hid (show ∀ b, K b → K2 b from fun b hb => by rw [← hK2]; exact .inl hb)
  have HKB2 := Lib.hid (show K2 w.heap.size by rw [← hK2]; exact .inr ⟨Nat.le_refl _, by simp⟩)
  rw [hK2] at hG
  have HX := Lib.hid (heap_alloc_new w (.cells #[.int .i64 14, .int .i64 n, .string t, .slice pw l cw] 53))
  have HBX := Lib.hid hbx
  have HC := Lib.hid (endList_pro _ hG hok hc0 h0)
  obtain ⟨Y1, hY1⟩ : ∃ Y1 : Ly, (endY y : Ly) = Y1 := ⟨_, rfl⟩
  rw [hY1] at HC ⊢
  clear hG hK2 hbx hY1 HEQ h hok hc0 h0
  go_enter Tryz.func28, Tryz.ntmps28
  go_wp2_with fail
  refine HC.out.mono ?_
  rintro e w1 ⟨rfl, h1, hk1⟩
  have hx1 := (hk1.block _ HKB2.out).trans HX.out
  have d0 : w1.cell? ⟨w.heap.size, 0, none⟩ = some (.int .i64 14) := by rw [cell_of_row _ _ _ _ _ _ hx1]; rfl
  have HK1 := Lib.hid ((Kp.of HBX.out (fun b hb => HLT.out b hb)).trans (hk1.mono HKK.out))
  obtain ⟨vh, vl, vk, vc, ve, vf, vo, vs, cs, c, h, h2⟩ := h1
  have HH := Lib.hid h
  have HO := Lib.hid h2
  have f92 := h.free 92
  obtain ⟨u92, q92⟩ := h.old (j := 92) (by omega)
  clear h h2 hk1 hx1
  go_wp2_with fail
  first | go_end0 | refine bodyPost_ret (results_none rfl _ _ _) rfl ?_
  have E := HH.out.ed.set 92 (.int .i64 14)
  have h5 := HH.out.edit (y' := { Y1 with ah := 14 }) E (HH.out.cel.setAh 14) rfl rfl rfl rfl rfl
  exact ⟨rfl, LyI.less ⟨_, _, _, _, _, _, _, _, _, _, h5, fun e => by first | exact HO.out e | exact HO.out trivial | cases e⟩ HKK.out, HK1.out.trans ((E.kp HH.out.notK).mono HKK.out)⟩
end Go.Proofs.YtjohhahfpgfjdaaGreatDoor.Tb
end
section
namespace Go.Proofs.YtjohhahfpgfjdaaGreatDoor.Tb
open Go.RowKit Go.Maps
set_option linter.unusedVariables false
set_option linter.unusedSimpArgs false
set_option maxRecDepth 100000 in
set_option maxHeartbeats 4000000 in
theorem ltake_2 {op : Bool} {B M : Nat} {K : Nat → Prop} {wd : Int} {ch : List S6.Chg} {y : Ly} (n : Int) (t : ByteArray) (ws : List Int) (pw : Option Addr) (l cw : Nat) (w : World) (h : LyI op B M K wd ch y w) (h0 : 0 < y.lo.length) (h18 : y.lo.length < 18) (hn : n < ch.length) :
    Calls Tryz.prog 28 #[.pointer (some ⟨M, 0, none⟩), .agg #[.int .i64 2, .int .i64 n, .string t, .slice pw l cw]] w (LyPost op B M K wd ch (takeY wd ch y ⟨2, n, t, ws⟩) (.tuple #[]) w) := by
  have HEQ : Hid (takeY wd ch y ⟨2, n, t, ws⟩ = { (layY y (styledK ch y n) false : Ly) with ah := 2 }) := Lib.hid (by simp [takeY, stepY])
  rw [HEQ.out]
  have hbx := below_box w (.cells #[.int .i64 2, .int .i64 n, .string t, .slice pw l cw] 53)
  have hG := h.grow hbx
  have HLT := Lib.hid (fun b hb => h.lt b hb)
  have HBW := Lib.hid (show B ≤ w.heap.size by have := h.bounds; omega)
  obtain ⟨K2, hK2⟩ : ∃ K2 : Nat → Prop, (fun b => K b ∨ (w.heap.size ≤ b ∧ b < (w.alloc (.cells #[.int .i64 2, .int .i64 n, .string t, .slice pw l cw] 53)).heap.size)) = K2 := ⟨_, rfl⟩
  have HKK := Lib.hid (show ∀ b, K b → K2 b from fun b hb => by rw [← hK2]; exact .inl hb)
  have HKB2 := Lib.hid (show K2 w.heap.size by rw [← hK2]; exact .inr ⟨Nat.le_refl _, by simp⟩)
  rw [hK2] at hG
  have HX := Lib.hid (heap_alloc_new w (.cells #[.int .i64 2, .int .i64 n, .string t, .slice pw l cw] 53))
  have HBX := Lib.hid hbx
  have HG := Lib.hid hG
  obtain ⟨W1, hW1⟩ : ∃ W1, w.alloc (.cells #[.int .i64 2, .int .i64 n, .string t, .slice pw l cw] 53) = W1 := ⟨_, rfl⟩
  have mixed : Tryz.prog.follows .mixedOrders = true := by kernel_rfl
  rw [hW1] at HG HBX HX
  obtain ⟨tb, htb⟩ : ∃ tb, w.heap.size = tb := ⟨_, rfl⟩
  have HTB := Lib.hid htb
  rw [htb] at HX HKB2
  have hx0 := HX.out
  have b0 : W1.cell? ⟨tb, 0, none⟩ = some (.int .i64 2) := by rw [cell_of_row _ _ _ _ _ _ hx0]; rfl
  have b1 : W1.cell? ⟨tb, 1, none⟩ = some (.int .i64 n) := by rw [cell_of_row _ _ _ _ _ _ hx0]; rfl
  have b3 : W1.cell? ⟨tb, 3, none⟩ = some (.slice pw l cw) := by rw [cell_of_row _ _ _ _ _ _ hx0]; rfl
  clear hx0
  have HST := Lib.hid (styled_pro n W1.drew HG.out.drew h0 hn)
  obtain ⟨k, hk⟩ : ∃ k, styledK ch y n = k := ⟨_, rfl⟩
  have H18 := Lib.hid h18
  have HD := Lib.hid ((Below.refl W1.heap.size W1).drew)
  rw [hk] at HST ⊢
  clear hG hK2 hbx HEQ h h0 h18 hn hk
  go_enter Tryz.func28, Tryz.ntmps28
  go_wp2_with fail
  try simp only [hW1, htb]
  go_region_law (first
    | (go_simp; go_at_call 59; refine HST.out.mono ?_; rintro e w6 ⟨rfl, hb6⟩; have HB6 := Lib.hid (HD.out.trans (hb6.mono HD.out.size)); clear hb6)
    | (go_simp; go_at_call 54; refine (lay_pro k false _ (HG.out.below HB6.out) H18.out).mono ?_; rintro e w7 ⟨rfl, h7, hk7⟩; have HIQ := Lib.hid h7; have HKQ := Lib.hid ((Kp.of HB6.out (fun b hb => HG.out.lt b hb)).trans hk7); clear h7 hk7))
  all_goals
    have hx1 := (HKQ.out.block _ HKB2.out).trans HX.out
    have d0 : w7.cell? ⟨tb, 0, none⟩ = some (.int .i64 2) := by rw [cell_of_row _ _ _ _ _ _ hx1]; rfl
    obtain ⟨vh, vl, vk, vc, ve, vf, vo, vs, cs, c, h, h2⟩ := HIQ.out
    have HH := Lib.hid h
    have HO := Lib.hid h2
    have f92 := h.free 92
    obtain ⟨u92, q92⟩ := h.old (j := 92) (by omega)
    clear h h2 hx1 b0 b1 b3
    go_wp2_with fail
    first | go_end0 | refine bodyPost_ret (results_none rfl _ _ _) rfl ?_
    have E := HH.out.ed.set 92 (.int .i64 2)
    have h5 := HH.out.edit (y' := { layY y k false with ah := 2 }) E (HH.out.cel.setAh 2) rfl rfl rfl rfl rfl
    exact ⟨rfl, LyI.less ⟨_, _, _, _, _, _, _, _, _, _, h5, fun e => by first | exact HO.out e | exact HO.out trivial | cases e⟩ HKK.out, (Kp.of HBX.out (fun b hb => HLT.out b hb)).trans ((HKQ.out.trans (E.kp HH.out.notK)).mono HKK.out)⟩
set_option maxRecDepth 100000 in
set_option maxHeartbeats 4000000 in
theorem ltake_12 {op : Bool} {B M : Nat} {K : Nat → Prop} {wd : Int} {ch : List S6.Chg} {y : Ly} (n : Int) (t : ByteArray) (ws : List Int) (pw : Option Addr) (l cw : Nat) (w : World) (h : LyI op B M K wd ch y w) {P : Nat → Prop} (hr : RdZ P w (.slice pw l cw) ws) (hw : 10 ≤ wd ∧ wd ≤ 200) :
    Calls Tryz.prog 28 #[.pointer (some ⟨M, 0, none⟩), .agg #[.int .i64 12, .int .i64 n, .string t, .slice pw l cw]] w (LyPost op B M K wd ch (takeY wd ch y ⟨12, n, t, ws⟩) (.tuple #[]) w) := by
  have HEQ : Hid (takeY wd ch y ⟨12, n, t, ws⟩ = { ({ y with co := colsL ws wd } : Ly) with ah := 12 }) := Lib.hid (by simp [takeY, stepY])
  rw [HEQ.out]
  have hbx := below_box w (.cells #[.int .i64 12, .int .i64 n, .string t, .slice pw l cw] 53)
  have hG := h.grow hbx
  have HLT := Lib.hid (fun b hb => h.lt b hb)
  have HBW := Lib.hid (show B ≤ w.heap.size by have := h.bounds; omega)
  obtain ⟨K2, hK2⟩ : ∃ K2 : Nat → Prop, (fun b => K b ∨ (w.heap.size ≤ b ∧ b < (w.alloc (.cells #[.int .i64 12, .int .i64 n, .string t, .slice pw l cw] 53)).heap.size)) = K2 := ⟨_, rfl⟩
  have HKK := Lib.hid (show ∀ b, K b → K2 b from fun b hb => by rw [← hK2]; exact .inl hb)
  have HKB2 := Lib.hid (show K2 w.heap.size by rw [← hK2]; exact .inr ⟨Nat.le_refl _, by simp⟩)
  rw [hK2] at hG
  have HX := Lib.hid (heap_alloc_new w (.cells #[.int .i64 12, .int .i64 n, .string t, .slice pw l cw] 53))
  have HBX := Lib.hid hbx
  have HG := Lib.hid hG
  obtain ⟨W1, hW1⟩ : ∃ W1, w.alloc (.cells #[.int .i64 12, .int .i64 n, .string t, .slice pw l cw] 53) = W1 := ⟨_, rfl⟩
  have mixed : Tryz.prog.follows .mixedOrders = true := by kernel_rfl
  rw [hW1] at HG HBX HX
  obtain ⟨tb, htb⟩ : ∃ tb, w.heap.size = tb := ⟨_, rfl⟩
  have HTB := Lib.hid htb
  rw [htb] at HX HKB2
  have hx0 := HX.out
  have b0 : W1.cell? ⟨tb, 0, none⟩ = some (.int .i64 12) := by rw [cell_of_row _ _ _ _ _ _ hx0]; rfl
  have b1 : W1.cell? ⟨tb, 1, none⟩ = some (.int .i64 n) := by rw [cell_of_row _ _ _ _ _ _ hx0]; rfl
  have b3 : W1.cell? ⟨tb, 3, none⟩ = some (.slice pw l cw) := by rw [cell_of_row _ _ _ _ _ _ hx0]; rfl
  clear hx0
  have hrd : RdZ P W1.drew (.slice pw l cw) ws := by
    have h9 := hr.below hbx
    rw [hW1] at h9
    exact h9
  have HCP := Lib.hid (columns_pro ws _ wd W1.drew hrd (by simp [Lit.wf, IntKind.min, IntKind.max, IntKind.signed, IntKind.bits]; omega))
  unfold ColsPost at HCP
  obtain ⟨cl, hcl⟩ : ∃ cl, colsL ws wd = cl := ⟨_, rfl⟩
  obtain ⟨z, hz⟩ : ∃ z, colsE ws wd = z := ⟨_, rfl⟩
  have HD := Lib.hid ((Below.refl W1.heap.size W1).drew)
  rw [hcl] at HCP ⊢
  rw [hz] at HCP
  obtain ⟨vh, vl, vk, vc, ve, vf, vo, vs, cs, c, hm1, hm2⟩ := HG.out
  have s2 : W1.cell? ⟨M, 2, none⟩ = some (.int .i64 wd) := (hm1.cell 2).trans hm1.cel.wd
  have HM1 := Lib.hid hm1
  have HO1 := Lib.hid hm2
  clear hG hK2 hbx HEQ h hrd hr hcl hz hm1 hm2
  go_enter Tryz.func28, Tryz.ntmps28
  go_wp2_with fail
  try simp only [hW1, htb]
  go_region_law (go_simp; go_at_call 65; refine HCP.out.mono ?_; rintro e w6 ⟨v6, rfl, hr6, hb6⟩; obtain ⟨p6, c6, rfl, _, _⟩ := sliceC hr6; have HB6 := Lib.hid (HD.out.trans (hb6.mono HD.out.size)); have HR6 := Lib.hid hr6; have hm6 := HM1.out.below HB6.out; have g89 := hm6.free 89; obtain ⟨u89, q89⟩ := hm6.old (j := 89) (by omega); clear hm6 hb6 hr6)
  all_goals
    have hm6 := HM1.out.below HB6.out
    have hlt1 := HM1.out.lt
    have hrc : RdC (TlB B M vl vk ve vo) w6 (.slice p6 cl.length c6) cl := HR6.out.imp fun b hb h9 => by
      have h8 : W1.heap.size ≤ b := h9
      have hB := HM1.out.base
      refine ⟨by omega, by omega, fun e => ?_, fun e => ?_, fun e => ?_, fun e => ?_⟩
      · have := (own_base HM1.out.ls.row e).2; omega
      · have := (own_base HM1.out.lk e).2; omega
      · have := (own_base HM1.out.ce.row e).2; omega
      · have := (own_base HM1.out.fl e).2; omega
    have E := hm6.ed.set 89 (.slice p6 cl.length c6)
    have h5 := hm6.change (y' := { y with co := cl }) (ve' := ve) (vo' := vo) (cs' := cs) E (hm6.cel.setCo _ cl) rfl rfl (hrc.move fun b h1 _ => ⟨E.oth b h1.2.1, h1⟩) (.inl ⟨rfl, rfl, rfl⟩) (.inl ⟨rfl, rfl⟩)
    have HIQ := Lib.hid (show LyI op B M K2 wd ch { y with co := cl } (w6.setCell ⟨M, 89, none⟩ (.slice p6 cl.length c6)) from ⟨_, _, _, _, _, _, _, _, _, _, h5, HO1.out⟩)
    have HKQ := Lib.hid ((Kp.of HB6.out (fun b (hb : K2 b) => HG.out.lt b hb)).trans (E.kp HM1.out.notK))
    obtain ⟨w7, hw7⟩ : ∃ w7, w6.setCell ⟨M, 89, none⟩ (.slice p6 cl.length c6) = w7 := ⟨_, rfl⟩
    rw [hw7] at HIQ HKQ
    try simp only [hw7]
    clear E h5 hrc hm6 hw7 g89 q89 s2
    have hx1 := (HKQ.out.block _ HKB2.out).trans HX.out
    have d0 : w7.cell? ⟨tb, 0, none⟩ = some (.int .i64 12) := by rw [cell_of_row _ _ _ _ _ _ hx1]; rfl
    obtain ⟨vh, vl, vk, vc, ve, vf, vo, vs, cs, c, h, h2⟩ := HIQ.out
    have HH := Lib.hid h
    have HO := Lib.hid h2
    have f92 := h.free 92
    obtain ⟨u92, q92⟩ := h.old (j := 92) (by omega)
    clear h h2 hx1 b0 b1 b3
    go_wp2_with fail
    first | go_end0 | refine bodyPost_ret (results_none rfl _ _ _) rfl ?_
    have E := HH.out.ed.set 92 (.int .i64 12)
    have h5 := HH.out.edit (y' := { { y with co := cl } with ah := 12 }) E (HH.out.cel.setAh 12) rfl rfl rfl rfl rfl
    exact ⟨rfl, LyI.less ⟨_, _, _, _, _, _, _, _, _, _, h5, fun e => by first | exact HO.out e | exact HO.out trivial | cases e⟩ HKK.out, (Kp.of HBX.out (fun b hb => HLT.out b hb)).trans ((HKQ.out.trans (E.kp HH.out.notK)).mono HKK.out)⟩
end Go.Proofs.YtjohhahfpgfjdaaGreatDoor.Tb
end
section
namespace Go.Proofs.YtjohhahfpgfjdaaGreatDoor.Tb
set_option linter.unusedVariables false
set_option linter.unusedSimpArgs false
/-- What no telling of lines touches. -/
structure Sm (a b : Ly) : Prop where
  lo : a.lo = b.lo
  li : a.li = b.li
  co : a.co = b.co
  ce : a.ce = b.ce
  fl : a.fl = b.fl
  lk : a.lk = b.lk
  mg : a.mg = b.mg
theorem Sm.refl (y : Ly) : Sm y y := ⟨rfl, rfl, rfl, rfl, rfl, rfl, rfl⟩
theorem Sm.trans {a b c : Ly} (h : Sm a b) (g : Sm b c) : Sm a c := ⟨h.lo.trans g.lo, h.li.trans g.li, h.co.trans g.co, h.ce.trans g.ce, h.fl.trans g.fl, h.lk.trans g.lk, h.mg.trans g.mg⟩
theorem sm_tell (y : Ly) (l : List Gl) : Sm (tellY y l) y := by unfold tellY; split <;> exact ⟨rfl, rfl, rfl, rfl, rfl, rfl, rfl⟩
theorem sm_free (y : Ly) : Sm (freeY y) y := ⟨rfl, rfl, rfl, rfl, rfl, rfl, rfl⟩
theorem sm_settle (y : Ly) : Sm (settleY y) y := by
  unfold settleY
  split
  · exact Sm.refl _
  · exact (sm_tell _ _).trans (sm_free _)
theorem sm_line (y : Ly) (l : List Gl) : Sm (lineY y l) y := (sm_tell _ _).trans (sm_free _)
theorem sm_fold {f : Ly → List Gl → Ly} (hf : ∀ y l, Sm (f y l) y) (ls : List (List Gl)) : ∀ y : Ly, Sm (ls.foldl f y) y := by
  induction ls with
  | nil => exact fun y => Sm.refl y
  | cons a l ih => exact fun y => (ih (f y a)).trans (hf y a)
theorem sm_lines (y : Ly) (ls : List (List Gl)) : Sm (linesY y ls) y := by
  refine (sm_fold sm_line ls _).trans ?_
  split
  · exact sm_settle y
  · exact Sm.refl y
/-- The lines are not too long; where no marker waits, it has no place. -/
def LsOk (y : Ly) : Prop := (∀ l ∈ y.ls, l.length ≤ 1000) ∧ (y.sg.size = 0 → y.pl = 0)
theorem LsOk.tell {y : Ly} (h : LsOk y) {l : List Gl} (hl : l.length ≤ 1000) : LsOk (tellY y l) := by
  unfold tellY
  split
  · exact h
  · refine ⟨fun r hr => ?_, h.2⟩
    rcases List.mem_append.1 hr with hr | hr
    · exact h.1 r hr
    · rw [List.mem_singleton] at hr; subst hr; exact hl
theorem LsOk.free {y : Ly} (h : LsOk y) : LsOk (freeY y) := ⟨h.1, fun _ => rfl⟩
theorem lead_200 {y : Ly} (hm : MkOk y) : (leadY y).length ≤ 200 := by
  have := lead_le hm
  have := hm.mg
  omega
theorem LsOk.settle {y : Ly} (h : LsOk y) (hm : MkOk y) : LsOk (settleY y) := by
  unfold settleY
  split
  · exact h
  · exact LsOk.tell h.free (Nat.le_trans (lead_200 hm) (by omega))
theorem LsOk.line {y : Ly} (h : LsOk y) (hm : MkOk y) {l : List Gl} (hl : l.length ≤ 200) : LsOk (lineY y l) := by
  refine LsOk.tell h.free ?_
  have h1 := lead_200 hm
  have h2 := hm.mg
  have h3 : ((blk y.mg).drop (leadY y).length).length ≤ 200 := by
    rw [List.length_drop]
    simp only [blk, List.length_replicate]
    omega
  rw [List.length_append, List.length_append]
  omega
theorem fold_line {ls : List (List Gl)} (hl : ∀ l ∈ ls, l.length ≤ 200) : ∀ {y : Ly}, MkOk y → LsOk y → MkOk (ls.foldl lineY y) ∧ LsOk (ls.foldl lineY y) := by
  induction ls with
  | nil => exact fun h1 h2 => ⟨h1, h2⟩
  | cons a l ih => exact fun h1 h2 => ih (fun r hr => hl r (List.mem_cons_of_mem _ hr)) (h1.line a) (h2.line h1 (hl a List.mem_cons_self))
theorem fold_tell {ls : List (List Gl)} (hl : ∀ l ∈ ls, l.length ≤ 200) : ∀ {y : Ly}, MkOk y → LsOk y → MkOk (ls.foldl tellY y) ∧ LsOk (ls.foldl tellY y) := by
  induction ls with
  | nil => exact fun h1 h2 => ⟨h1, h2⟩
  | cons a l ih => exact fun h1 h2 => ih (fun r hr => hl r (List.mem_cons_of_mem _ hr)) (h1.tell a) (h2.tell (Nat.le_trans (hl a List.mem_cons_self) (by omega)))
theorem lines_ok {ls : List (List Gl)} (hl : ∀ l ∈ ls, l.length ≤ 200) {y : Ly} (h1 : MkOk y) (h2 : LsOk y) : MkOk (linesY y ls) ∧ LsOk (linesY y ls) := by
  unfold linesY
  split
  · exact fold_line hl h1.settle (h2.settle h1)
  · exact fold_line hl h1 h2
/-- What holds between two operations. -/
structure LyOk (s : Wk) (y : Ly) (k T : Nat) : Prop where
  mok : MkOk y
  lns : LsOk y
  lo : y.lo.length = if s.para then 2 + s.br.length else 1
  br : s.para = false → s.br.length = 0
  brl : s.br.length ≤ 16
  kind : (y.co.length = 0 ∧ y.li.length = s.op.length ∧ ∀ o ∈ s.op, o.wide = 0) ∨ (0 < y.co.length ∧ y.li.length = 0 ∧ s.op.length = 1 ∧ ∀ o ∈ s.op, 0 < o.wide)
  opl : s.op.length ≤ 8
  lis : ∀ i ∈ y.li, (0 ≤ i.place ∧ i.place ≤ 200) ∧ 0 ≤ i.items ∧ i.items ≤ k
  lk : y.lk.length ≤ k
  cel : y.ce.length ≤ k
  ce : ∀ f ∈ y.ce, f.length ≤ k + T
  fl : y.fl.length ≤ k + T
theorem lyOk0 : LyOk wk0 ly0 0 0 where
  mok := ⟨Int.le_refl _, by simp [ly0], by simp [ly0], by simp [ly0]⟩
  lns := ⟨fun l hl => by simp [ly0] at hl, fun _ => rfl⟩
  lo := rfl
  br := fun _ => rfl
  brl := Nat.zero_le _
  kind := .inl ⟨rfl, rfl, fun o ho => by simp [wk0] at ho⟩
  opl := Nat.zero_le _
  lis := fun i hi => by simp [ly0] at hi
  lk := Nat.le_refl _
  cel := Nat.le_refl _
  ce := fun f hf => by simp [ly0] at hf
  fl := Nat.le_refl _
theorem MkOk.like {y z : Ly} (h : MkOk y) (h1 : z.pl = y.pl) (h2 : z.sg = y.sg) (h3 : z.mg = y.mg) (h4 : z.ls = y.ls) : MkOk z :=
  ⟨by rw [h1]; exact h.pl0, by rw [h1, h2, h3]; exact h.mrg, by rw [h3]; exact h.mg, by rw [h4]; exact h.ls⟩
theorem LsOk.like {y z : Ly} (h : LsOk y) (h4 : z.ls = y.ls) (h1 : z.pl = y.pl) (h2 : z.sg = y.sg) : LsOk z := by unfold LsOk; rw [h4, h1, h2]; exact h
theorem settle_none (y : Ly) : (settleY y).sg.size = 0 := by
  unfold settleY
  split
  · assumption
  · unfold tellY
    split <;> rfl
theorem sgn_pos (i : Li) : 0 < (sgnI i).size := by
  unfold sgnI
  split
  · rw [ByteArray.size_append]; exact Nat.lt_of_lt_of_le (by decide : 0 < dot.size) (Nat.le_add_left _ _)
  · decide
theorem mapTop_len (f : Lv → Lv) (l : List Lv) : (mapTop f l).length = l.length := by
  unfold mapTop
  cases h : l.getLast? with
  | none => rw [List.getLast?_eq_none_iff] at h; subst h; rfl
  | some x =>
    have : l ≠ [] := fun e => by subst e; cases h
    have := List.length_pos_iff.2 this
    simp
    omega
theorem mapTop_wide {f : Lv → Lv} (hf : ∀ x, (f x).wide = x.wide) {l : List Lv} {P : Nat → Prop} (h : ∀ o ∈ l, P o.wide) : ∀ o ∈ mapTop f l, P o.wide := by
  intro o ho
  rcases Ir.mapTop_mem ho with ho | ⟨x, hx, rfl⟩
  · exact h o ho
  · rw [hf]; exact h x hx
theorem top_mem {s : Wk} (h : 0 < s.op.length) : topL s ∈ s.op := by
  unfold topL
  cases e : s.op.getLast? with
  | none => rw [List.getLast?_eq_none_iff] at e; rw [e] at h; simp at h
  | some x => exact List.mem_of_getLast? e
/-- What is open is a table, or it is lists, or nothing. -/
theorem LyOk.lists {s : Wk} {y : Ly} {k T : Nat} (h : LyOk s y k T) (ht : tabB (topL s) = false) : y.co.length = 0 ∧ y.li.length = s.op.length ∧ ∀ o ∈ s.op, o.wide = 0 := by
  rcases h.kind with h1 | ⟨h1, h2, h3, h4⟩
  · exact h1
  · have := h4 _ (top_mem (by omega))
    simp [tabB] at ht
    omega
theorem LyOk.tab {s : Wk} {y : Ly} {k T : Nat} (h : LyOk s y k T) (ht : tabB (topL s) = true) (h0 : 0 < s.op.length) : 0 < y.co.length ∧ y.li.length = 0 ∧ s.op.length = 1 ∧ ∀ o ∈ s.op, 0 < o.wide := by
  rcases h.kind with ⟨h1, h2, h3⟩ | h1
  · have := h3 _ (top_mem h0)
    simp [tabB] at ht
    omega
  · exact h1
theorem lastLi_mem {y : Ly} (h : 0 < y.li.length) : lastLi y ∈ y.li := by
  unfold lastLi
  cases e : y.li.getLast? with
  | none => rw [List.getLast?_eq_none_iff] at e; rw [e] at h; simp at h
  | some x => exact List.mem_of_getLast? e
theorem cols_full {ws : List Int} {wd : Int} (hw : 10 ≤ wd ∧ wd ≤ 200) (h : Ir.widB ws = true) : 0 < (colsL ws wd).length ∧ 0 < ws.length := by
  simp only [Ir.widB, Bool.and_eq_true, decide_eq_true_eq, Bool.not_eq_true'] at h
  obtain ⟨⟨h1, h2⟩, h3⟩ := h
  have h0 : colsE ws wd = 0 := colsE_ok hw.1 hw.2 (by omega) (by omega) (by
    rw [List.any_eq_false] at h3 ⊢
    intro z hz
    have := h3 z hz
    simp at this
    simp [okW]
    omega)
  unfold colsL
  rw [if_pos h0]
  refine ⟨?_, by omega⟩
  unfold colsM
  rw [colsAt_len, widthsM_len]
  omega
/-- Kinds that stand in a paragraph, and put something to its flow. -/
theorem LyOk.flow {s : Wk} {y : Ly} {k T j : Nat} (h : LyOk s y k T) (n : Int) (t : ByteArray) (ws : List Int) (z : List Gl) (hz : z.length ≤ j + 1) (a : Int) : LyOk { s with ah := a } { ({ y with fl := y.fl ++ z } : Ly) with ah := a } (k + 1) (T + j) where
  mok := h.mok.like rfl rfl rfl rfl
  lns := h.lns.like rfl rfl rfl
  lo := h.lo
  br := h.br
  brl := h.brl
  kind := h.kind
  opl := h.opl
  lis := fun i hi => by have := h.lis i hi; omega
  lk := by have := h.lk; simp only; omega
  cel := by have := h.cel; simp only; omega
  ce := fun f hf => by have := h.ce f hf; omega
  fl := by have := h.fl; simp only [List.length_append]; omega
theorem takeS_br (s : Wk) (k n : Int) (t : ByteArray) (ws : List Int) (h : k = 2 ∨ k = 3 ∨ k = 4) : takeS s ⟨k, n, t, ws⟩ = { s with br := s.br ++ [k], ah := k } := by unfold takeS; rw [if_pos h]
theorem takeS_1 (s : Wk) (n : Int) (t : ByteArray) (ws : List Int) : takeS s ⟨1, n, t, ws⟩ = { s with ah := 1 } := by simp [takeS]
theorem takeS_6 (s : Wk) (n : Int) (t : ByteArray) (ws : List Int) : takeS s ⟨6, n, t, ws⟩ = { s with ah := 6 } := by simp [takeS]
theorem takeS_7 (s : Wk) (n : Int) (t : ByteArray) (ws : List Int) : takeS s ⟨7, n, t, ws⟩ = { s with ah := 7 } := by simp [takeS]
theorem takeS_5 (s : Wk) (n : Int) (t : ByteArray) (ws : List Int) : takeS s ⟨5, n, t, ws⟩ = { s with br := s.br.dropLast, ah := 5 } := by simp [takeS]
theorem takeS_8 (s : Wk) (n : Int) (t : ByteArray) (ws : List Int) : takeS s ⟨8, n, t, ws⟩ = { s with para := true, op := mapTop (fun l => { l with cells := l.cells + 1 }) s.op, ah := 8 } := by simp [takeS]
theorem takeS_9 (s : Wk) (n : Int) (t : ByteArray) (ws : List Int) : takeS s ⟨9, n, t, ws⟩ = { s with para := false, ah := 9 } := by simp [takeS]
theorem takeS_op (s : Wk) (k n : Int) (t : ByteArray) (ws : List Int) (h : k = 10 ∨ k = 12) : takeS s ⟨k, n, t, ws⟩ = { s with op := s.op ++ [⟨ws.length, 0, 0⟩], ah := k } := by rcases h with rfl | rfl <;> simp [takeS]
theorem takeS_it (s : Wk) (k n : Int) (t : ByteArray) (ws : List Int) (h : k = 11 ∨ k = 13) : takeS s ⟨k, n, t, ws⟩ = { s with op := mapTop (fun l => { l with parts := l.parts + 1, cells := 0 }) s.op, ah := k } := by rcases h with rfl | rfl <;> simp [takeS]
theorem takeS_14 (s : Wk) (n : Int) (t : ByteArray) (ws : List Int) : takeS s ⟨14, n, t, ws⟩ = { s with op := s.op.dropLast, ah := 14 } := by simp [takeS]
theorem takeY_1 (wd : Int) (ch : List S6.Chg) (y : Ly) (n : Int) (t : ByteArray) (ws : List Int) : takeY wd ch y ⟨1, n, t, ws⟩ = { textY y t with ah := 1 } := by simp [takeY, stepY]
theorem takeY_2 (wd : Int) (ch : List S6.Chg) (y : Ly) (n : Int) (t : ByteArray) (ws : List Int) : takeY wd ch y ⟨2, n, t, ws⟩ = { layY y (styledK ch y n) false with ah := 2 } := by simp [takeY, stepY]
theorem takeY_3 (wd : Int) (ch : List S6.Chg) (y : Ly) (n : Int) (t : ByteArray) (ws : List Int) : takeY wd ch y ⟨3, n, t, ws⟩ = { linkY y 0 n with ah := 3 } := by simp [takeY, stepY]
theorem takeY_4 (wd : Int) (ch : List S6.Chg) (y : Ly) (n : Int) (t : ByteArray) (ws : List Int) : takeY wd ch y ⟨4, n, t, ws⟩ = { linkY y 1 n with ah := 4 } := by simp [takeY, stepY]
theorem takeY_5 (wd : Int) (ch : List S6.Chg) (y : Ly) (n : Int) (t : ByteArray) (ws : List Int) : takeY wd ch y ⟨5, n, t, ws⟩ = { closeY y with ah := 5 } := by simp [takeY, stepY]
theorem takeY_6 (wd : Int) (ch : List S6.Chg) (y : Ly) (n : Int) (t : ByteArray) (ws : List Int) : takeY wd ch y ⟨6, n, t, ws⟩ = { putY y tabB' 1 with ah := 6 } := by simp [takeY, stepY]
theorem takeY_7 (wd : Int) (ch : List S6.Chg) (y : Ly) (n : Int) (t : ByteArray) (ws : List Int) : takeY wd ch y ⟨7, n, t, ws⟩ = { putY y nlB 1 with ah := 7 } := by simp [takeY, stepY]
theorem takeY_8 (wd : Int) (ch : List S6.Chg) (y : Ly) (n : Int) (t : ByteArray) (ws : List Int) : takeY wd ch y ⟨8, n, t, ws⟩ = { beginY ch y n with ah := 8 } := by simp [takeY, stepY]
theorem takeY_9 (wd : Int) (ch : List S6.Chg) (y : Ly) (n : Int) (t : ByteArray) (ws : List Int) : takeY wd ch y ⟨9, n, t, ws⟩ = { doneY wd y with ah := 9 } := by simp [takeY, stepY]
theorem takeY_10 (wd : Int) (ch : List S6.Chg) (y : Ly) (n : Int) (t : ByteArray) (ws : List Int) : takeY wd ch y ⟨10, n, t, ws⟩ = { listY y n with ah := 10 } := by simp [takeY, stepY]
theorem takeY_11 (wd : Int) (ch : List S6.Chg) (y : Ly) (n : Int) (t : ByteArray) (ws : List Int) : takeY wd ch y ⟨11, n, t, ws⟩ = { itemY wd y with ah := 11 } := by simp [takeY, stepY]
theorem takeY_12 (wd : Int) (ch : List S6.Chg) (y : Ly) (n : Int) (t : ByteArray) (ws : List Int) : takeY wd ch y ⟨12, n, t, ws⟩ = { ({ y with co := colsL ws wd } : Ly) with ah := 12 } := by simp [takeY, stepY]
theorem takeY_13 (wd : Int) (ch : List S6.Chg) (y : Ly) (n : Int) (t : ByteArray) (ws : List Int) : takeY wd ch y ⟨13, n, t, ws⟩ = { rowY y with ah := 13 } := by simp [takeY, stepY]
theorem takeY_14 (wd : Int) (ch : List S6.Chg) (y : Ly) (n : Int) (t : ByteArray) (ws : List Int) : takeY wd ch y ⟨14, n, t, ws⟩ = { endY y with ah := 14 } := by simp [takeY, stepY]
theorem take_ok1 {s : Wk} {y : Ly} {k T : Nat} {wd : Int} {ch : List S6.Chg} {st tp : Int} (n : Int) (t : ByteArray) (ws : List Int) (hw : 10 ≤ wd ∧ wd ≤ 200) (h : LyOk s y k T) (hf : Ir.fitB ⟨1, n, t, ws⟩ st tp = true) (hm : mayS s 1 = true) : LyOk (takeS s ⟨1, n, t, ws⟩) (takeY wd ch y ⟨1, n, t, ws⟩) (k + 1) (T + t.size) := by
  have hfl := h.fl
  have hlk := h.lk
  have hcel := h.cel
  have hbrl := h.brl
  have hopl := h.opl
  rw [takeS_1, takeY_1]
  exact h.flow n t ws _ (by rw [List.length_map]; have := cells_len t; omega) 1
theorem take_ok2 {s : Wk} {y : Ly} {k T : Nat} {wd : Int} {ch : List S6.Chg} {st tp : Int} (n : Int) (t : ByteArray) (ws : List Int) (hw : 10 ≤ wd ∧ wd ≤ 200) (h : LyOk s y k T) (hf : Ir.fitB ⟨2, n, t, ws⟩ st tp = true) (hm : mayS s 2 = true) : LyOk (takeS s ⟨2, n, t, ws⟩) (takeY wd ch y ⟨2, n, t, ws⟩) (k + 1) (T + t.size) := by
  have hfl := h.fl
  have hlk := h.lk
  have hcel := h.cel
  have hbrl := h.brl
  have hopl := h.opl
  rw [takeS_br _ _ _ _ _ (by decide), takeY_2]
  -- a style
  simp [mayS] at hm
  refine ⟨h.mok.like rfl rfl rfl rfl, h.lns.like rfl rfl rfl, ?_, ?_, ?_, h.kind, h.opl, fun i hi => by have := h.lis i hi; omega, ?_, ?_, fun f hf => by have := h.ce f hf; omega, ?_⟩
  · have := h.lo; simp [layY, hm.2] at this ⊢; omega
  · intro e; simp [hm.2] at e
  · simp; omega
  · simp [layY]; omega
  · simp [layY]; omega
  · simp [layY]; omega
theorem take_ok3 {s : Wk} {y : Ly} {k T : Nat} {wd : Int} {ch : List S6.Chg} {st tp : Int} (n : Int) (t : ByteArray) (ws : List Int) (hw : 10 ≤ wd ∧ wd ≤ 200) (h : LyOk s y k T) (hf : Ir.fitB ⟨3, n, t, ws⟩ st tp = true) (hm : mayS s 3 = true) : LyOk (takeS s ⟨3, n, t, ws⟩) (takeY wd ch y ⟨3, n, t, ws⟩) (k + 1) (T + t.size) := by
  have hfl := h.fl
  have hlk := h.lk
  have hcel := h.cel
  have hbrl := h.brl
  have hopl := h.opl
  rw [takeS_br _ _ _ _ _ (by decide), takeY_3]
  -- a link
  simp [mayS] at hm
  refine ⟨h.mok.like rfl rfl rfl rfl, h.lns.like rfl rfl rfl, ?_, ?_, ?_, h.kind, h.opl, fun i hi => by have := h.lis i hi; omega, ?_, ?_, fun f hf => by have := h.ce f hf; omega, ?_⟩
  · have := h.lo; simp [layY, linkY, hm.2] at this ⊢; omega
  · intro e; simp [hm.2] at e
  · simp; omega
  · simp [layY, linkY]; omega
  · simp [layY, linkY]; omega
  · simp [layY, linkY]; omega
theorem take_ok4 {s : Wk} {y : Ly} {k T : Nat} {wd : Int} {ch : List S6.Chg} {st tp : Int} (n : Int) (t : ByteArray) (ws : List Int) (hw : 10 ≤ wd ∧ wd ≤ 200) (h : LyOk s y k T) (hf : Ir.fitB ⟨4, n, t, ws⟩ st tp = true) (hm : mayS s 4 = true) : LyOk (takeS s ⟨4, n, t, ws⟩) (takeY wd ch y ⟨4, n, t, ws⟩) (k + 1) (T + t.size) := by
  have hfl := h.fl
  have hlk := h.lk
  have hcel := h.cel
  have hbrl := h.brl
  have hopl := h.opl
  rw [takeS_br _ _ _ _ _ (by decide), takeY_4]
  -- a note
  simp [mayS] at hm
  refine ⟨h.mok.like rfl rfl rfl rfl, h.lns.like rfl rfl rfl, ?_, ?_, ?_, h.kind, h.opl, fun i hi => by have := h.lis i hi; omega, ?_, ?_, fun f hf => by have := h.ce f hf; omega, ?_⟩
  · have := h.lo; simp [layY, linkY, hm.2] at this ⊢; omega
  · intro e; simp [hm.2] at e
  · simp; omega
  · simp [layY, linkY]; omega
  · simp [layY, linkY]; omega
  · simp [layY, linkY]; omega
theorem take_ok5 {s : Wk} {y : Ly} {k T : Nat} {wd : Int} {ch : List S6.Chg} {st tp : Int} (n : Int) (t : ByteArray) (ws : List Int) (hw : 10 ≤ wd ∧ wd ≤ 200) (h : LyOk s y k T) (hf : Ir.fitB ⟨5, n, t, ws⟩ st tp = true) (hm : mayS s 5 = true) : LyOk (takeS s ⟨5, n, t, ws⟩) (takeY wd ch y ⟨5, n, t, ws⟩) (k + 1) (T + t.size) := by
  have hfl := h.fl
  have hlk := h.lk
  have hcel := h.cel
  have hbrl := h.brl
  have hopl := h.opl
  rw [takeS_5, takeY_5]
  -- a close
  simp [mayS] at hm
  have hp : s.para = true := by
    cases e : s.para with
    | true => rfl
    | false => have := h.br e; omega
  have ec : ∃ lk : Int, ({ closeY y with ah := 5 } : Ly) = { ({ y with lo := y.lo.dropLast, link := lk } : Ly) with ah := 5 } := by
    simp only [closeY, offY]
    split
    · exact ⟨_, rfl⟩
    · exact ⟨_, rfl⟩
  obtain ⟨lk, ec⟩ := ec
  rw [ec]
  refine ⟨h.mok.like rfl rfl rfl rfl, h.lns.like rfl rfl rfl, ?_, ?_, ?_, h.kind, h.opl, fun i hi => by have := h.lis i hi; omega, ?_, ?_, fun f hf => by have := h.ce f hf; omega, ?_⟩
  · have := h.lo; simp [hp] at this ⊢; omega
  · intro e; simp [hp] at e
  · simp; omega
  · simp only; omega
  · simp only; omega
  · simp only; omega
theorem take_ok6 {s : Wk} {y : Ly} {k T : Nat} {wd : Int} {ch : List S6.Chg} {st tp : Int} (n : Int) (t : ByteArray) (ws : List Int) (hw : 10 ≤ wd ∧ wd ≤ 200) (h : LyOk s y k T) (hf : Ir.fitB ⟨6, n, t, ws⟩ st tp = true) (hm : mayS s 6 = true) : LyOk (takeS s ⟨6, n, t, ws⟩) (takeY wd ch y ⟨6, n, t, ws⟩) (k + 1) (T + t.size) := by
  have hfl := h.fl
  have hlk := h.lk
  have hcel := h.cel
  have hbrl := h.brl
  have hopl := h.opl
  rw [takeS_6, takeY_6]
  exact h.flow n t ws [_] (by simp) 6
theorem take_ok7 {s : Wk} {y : Ly} {k T : Nat} {wd : Int} {ch : List S6.Chg} {st tp : Int} (n : Int) (t : ByteArray) (ws : List Int) (hw : 10 ≤ wd ∧ wd ≤ 200) (h : LyOk s y k T) (hf : Ir.fitB ⟨7, n, t, ws⟩ st tp = true) (hm : mayS s 7 = true) : LyOk (takeS s ⟨7, n, t, ws⟩) (takeY wd ch y ⟨7, n, t, ws⟩) (k + 1) (T + t.size) := by
  have hfl := h.fl
  have hlk := h.lk
  have hcel := h.cel
  have hbrl := h.brl
  have hopl := h.opl
  rw [takeS_7, takeY_7]
  exact h.flow n t ws [_] (by simp) 7
theorem take_ok8 {s : Wk} {y : Ly} {k T : Nat} {wd : Int} {ch : List S6.Chg} {st tp : Int} (n : Int) (t : ByteArray) (ws : List Int) (hw : 10 ≤ wd ∧ wd ≤ 200) (h : LyOk s y k T) (hf : Ir.fitB ⟨8, n, t, ws⟩ st tp = true) (hm : mayS s 8 = true) : LyOk (takeS s ⟨8, n, t, ws⟩) (takeY wd ch y ⟨8, n, t, ws⟩) (k + 1) (T + t.size) := by
  have hfl := h.fl
  have hlk := h.lk
  have hcel := h.cel
  have hbrl := h.brl
  have hopl := h.opl
  rw [takeS_8, takeY_8]
  -- a paragraph
  simp [mayS] at hm
  have hb := h.br hm.1
  have e1 : ∃ y1 : Ly, Sm y1 y ∧ MkOk y1 ∧ LsOk y1 ∧ ({ beginY ch y n with ah := 8 } : Ly) = { layY { y1 with fl := [] } (styledK ch y1 n) false with ah := 8 } := by
    simp only [beginY]
    split
    · exact ⟨_, sm_tell y [], h.mok.tell _, h.lns.tell (by simp), rfl⟩
    · exact ⟨_, Sm.refl y, h.mok, h.lns, rfl⟩
  obtain ⟨y1, e, hmk, hls, e1⟩ := e1
  rw [e1]
  refine ⟨hmk.like rfl rfl rfl rfl, hls.like rfl rfl rfl, ?_, ?_, ?_, ?_, ?_, fun i hi => by have := h.lis i (by simp only [layY] at hi; rw [← e.li]; exact hi); omega, ?_, ?_, fun f hf => by have := h.ce f (by simp only [layY] at hf; rw [← e.ce]; exact hf); omega, ?_⟩
  · have := h.lo; simp [layY, e.lo, hm.1, hb] at this ⊢; omega
  · intro e; simp at e
  · simp; omega
  · simp only [layY]
    rcases h.kind with ⟨k1, k2, k3⟩ | ⟨k1, k2, k3, k4⟩
    · refine .inl ⟨by rw [e.co]; exact k1, by rw [e.li]; simp [mapTop_len]; exact k2, ?_⟩
      exact mapTop_wide (P := fun v => v = 0) (f := fun l => { l with cells := l.cells + 1 }) (fun x => rfl) k3
    · refine .inr ⟨by rw [e.co]; exact k1, by rw [e.li]; exact k2, by simp [mapTop_len]; exact k3, ?_⟩
      exact mapTop_wide (P := fun v => 0 < v) (f := fun l => { l with cells := l.cells + 1 }) (fun x => rfl) k4
  · simp [mapTop_len]; omega
  · simp only [layY, e.lk]; omega
  · simp only [layY, e.ce]; omega
  · simp [layY]
theorem take_ok9 {s : Wk} {y : Ly} {k T : Nat} {wd : Int} {ch : List S6.Chg} {st tp : Int} (n : Int) (t : ByteArray) (ws : List Int) (hw : 10 ≤ wd ∧ wd ≤ 200) (h : LyOk s y k T) (hf : Ir.fitB ⟨9, n, t, ws⟩ st tp = true) (hm : mayS s 9 = true) : LyOk (takeS s ⟨9, n, t, ws⟩) (takeY wd ch y ⟨9, n, t, ws⟩) (k + 1) (T + t.size) := by
  have hfl := h.fl
  have hlk := h.lk
  have hcel := h.cel
  have hbrl := h.brl
  have hopl := h.opl
  rw [takeS_9, takeY_9]
  -- its end
  simp [mayS] at hm
  have hb : s.br.length = 0 := by have := hm.2; simp [this]
  have h1 := h.lo
  rw [hm.1, if_pos rfl] at h1
  unfold doneY
  by_cases hc : y.co.length = 0
  · have e1 : ∃ y1 : Ly, Sm y1 (offY y) ∧ MkOk y1 ∧ LsOk y1 ∧ linesY (offY y) (fillL (wd - y.mg) y.fl) = y1 := by
      have h2 := lines_ok (ls := fillL (wd - y.mg) y.fl) (fun l hl => fill_small hl) (y := offY y) (h.mok.like rfl rfl rfl rfl) (h.lns.like rfl rfl rfl)
      exact ⟨_, sm_lines _ _, h2.1, h2.2, rfl⟩
    obtain ⟨y1, e, hmk, hls, e1⟩ := e1
    simp only [if_pos hc, e1]
    refine ⟨hmk.like rfl rfl rfl rfl, hls.like rfl rfl rfl, ?_, ?_, ?_, ?_, ?_, fun i hi => by have := h.lis i (by simp only at hi; rw [e.li] at hi; exact hi); omega, ?_, ?_, fun f hf => by have := h.ce f (by simp only at hf; rw [e.ce] at hf; exact hf); omega, ?_⟩
    · simp [e.lo, offY]; omega
    · intro _; simp; exact List.eq_nil_of_length_eq_zero hb
    · simp; omega
    · simp only [e.co, e.li, offY]; exact h.kind
    · simp; omega
    · simp only [e.lk, offY]; omega
    · simp only [e.ce, offY]; omega
    · simp
  · simp only [if_neg hc]
    refine ⟨h.mok.like rfl rfl rfl rfl, h.lns.like rfl rfl rfl, ?_, ?_, ?_, ?_, ?_, fun i hi => by have := h.lis i hi; omega, ?_, ?_, ?_, ?_⟩
    · simp [offY]; omega
    · intro _; simp; exact List.eq_nil_of_length_eq_zero hb
    · simp; omega
    · simp only [offY]; exact h.kind
    · simp; omega
    · simp only [offY]; omega
    · simp [offY]; omega
    · intro f hf
      simp only [offY] at hf
      rcases List.mem_append.1 hf with hf | hf
      · have := h.ce f hf; omega
      · rw [List.mem_singleton] at hf; subst hf; omega
    · simp [offY]
theorem take_ok10 {s : Wk} {y : Ly} {k T : Nat} {wd : Int} {ch : List S6.Chg} {st tp : Int} (n : Int) (t : ByteArray) (ws : List Int) (hw : 10 ≤ wd ∧ wd ≤ 200) (h : LyOk s y k T) (hf : Ir.fitB ⟨10, n, t, ws⟩ st tp = true) (hm : mayS s 10 = true) : LyOk (takeS s ⟨10, n, t, ws⟩) (takeY wd ch y ⟨10, n, t, ws⟩) (k + 1) (T + t.size) := by
  have hfl := h.fl
  have hlk := h.lk
  have hcel := h.cel
  have hbrl := h.brl
  have hopl := h.opl
  rw [takeS_op _ _ _ _ _ (by decide), takeY_10]
  -- a list
  simp [mayS] at hm
  have hl := h.lists hm.1.1.2
  have hws : ws.length = 0 := by
    simp [Ir.fitB] at hf
    simp [hf.2]
  have e := sm_settle y
  have hm1 := h.mok.settle
  have hl1 := h.lns.settle h.mok
  have et : ({ listY y n with ah := 10 } : Ly) = { ({ settleY y with li := (settleY y).li ++ [⟨decide (n ≠ 0), (settleY y).mg, 0⟩] } : Ly) with ah := 10 } := rfl
  rw [et]
  obtain ⟨y1, hy1⟩ : ∃ y1, settleY y = y1 := ⟨_, rfl⟩
  rw [hy1] at e hm1 hl1 ⊢
  have g1 := hm1.pl0
  have g2 := hm1.mrg
  have g3 := hm1.mg
  refine ⟨hm1.like rfl rfl rfl rfl, hl1.like rfl rfl rfl, ?_, ?_, ?_, ?_, ?_, ?_, ?_, ?_, fun f hf => by have := h.ce f (by simp only at hf; rw [e.ce] at hf; exact hf); omega, ?_⟩
  · have := h.lo; simp [e.lo] at this ⊢; exact this
  · have := h.br; simpa using this
  · simp; omega
  · refine .inl ⟨by simp only [e.co]; exact hl.1, by simp [e.li]; exact hl.2.1, ?_⟩
    intro o ho
    simp at ho
    rcases ho with ho | rfl
    · exact hl.2.2 o ho
    · exact hws
  · simp; omega
  · intro i hi
    simp only at hi
    rcases List.mem_append.1 hi with hi | hi
    · have := h.lis i (by rw [← e.li]; exact hi); omega
    · rw [List.mem_singleton] at hi; subst hi; dsimp only; omega
  · simp only [e.lk]; omega
  · simp only [e.ce]; omega
  · simp only [e.fl]; omega
theorem take_ok11 {s : Wk} {y : Ly} {k T : Nat} {wd : Int} {ch : List S6.Chg} {st tp : Int} (n : Int) (t : ByteArray) (ws : List Int) (hw : 10 ≤ wd ∧ wd ≤ 200) (h : LyOk s y k T) (hf : Ir.fitB ⟨11, n, t, ws⟩ st tp = true) (hm : mayS s 11 = true) : LyOk (takeS s ⟨11, n, t, ws⟩) (takeY wd ch y ⟨11, n, t, ws⟩) (k + 1) (T + t.size) := by
  have hfl := h.fl
  have hlk := h.lk
  have hcel := h.cel
  have hbrl := h.brl
  have hopl := h.opl
  rw [takeS_it _ _ _ _ _ (by decide), takeY_11]
  -- an item
  simp [mayS] at hm
  have hl := h.lists hm.2
  have h0 : 0 < y.li.length := by rw [hl.2.1]; exact hm.1.2
  have e := sm_settle y
  have hm1 := h.mok.settle
  have hl1 := h.lns.settle h.mok
  unfold itemY
  obtain ⟨y1, hy1⟩ : ∃ y1, settleY y = y1 := ⟨_, rfl⟩
  rw [hy1] at e hm1 hl1 ⊢
  have hlast := h.lis (lastLi y1) (by
    have := lastLi_mem h0
    unfold lastLi at this ⊢
    rw [e.li]
    exact this)
  obtain ⟨il, hil⟩ : ∃ il, lastLi y1 = il := ⟨_, rfl⟩
  rw [hil] at hlast
  dsimp only
  rw [hil]
  obtain ⟨i2, hi2⟩ : ∃ i2 : Li, ({ il with items := il.items + 1 } : Li) = i2 := ⟨_, rfl⟩
  have p2 : i2.place = il.place ∧ i2.items = il.items + 1 := by rw [← hi2]; exact ⟨rfl, rfl⟩
  rw [hi2]
  obtain ⟨sg, hsg⟩ : ∃ sg, sgnI i2 = sg := ⟨_, rfl⟩
  rw [hsg]
  obtain ⟨m, hmm⟩ : ∃ m, min (il.place + sg.size + 1) (wd - 4) = m := ⟨_, rfl⟩
  rw [hmm]
  have hm0 : 1 ≤ m ∧ m ≤ 196 := by omega
  have hts : (sg.extract (sg.size - m.toNat) sg.size).size = min sg.size m.toNat := by rw [ByteArray.size_extract]; omega
  obtain ⟨tt, htt⟩ : ∃ tt, sg.extract (sg.size - m.toNat) sg.size = tt := ⟨_, rfl⟩
  rw [htt] at hts ⊢
  have hsp : 0 < sg.size := by rw [← hsg]; exact sgn_pos _
  refine ⟨⟨?_, ?_, ?_, hm1.ls⟩, ⟨hl1.1, fun e => by dsimp only at e; omega⟩, ?_, ?_, ?_, ?_, ?_, ?_, ?_, ?_, fun f hf => by have := h.ce f (by simp only at hf; rw [e.ce] at hf; exact hf); omega, ?_⟩
  · simp only; omega
  · simp only; omega
  · simp only; omega
  · have := h.lo; simp [e.lo] at this ⊢; exact this
  · have := h.br; simpa using this
  · simp; omega
  · refine .inl ⟨by simp only [e.co]; exact hl.1, ?_, ?_⟩
    · have : y1.li.length = s.op.length := by rw [e.li]; exact hl.2.1
      simp [mapTop_len]; omega
    · exact mapTop_wide (P := fun v => v = 0) (f := fun l => { l with parts := l.parts + 1, cells := 0 }) (fun x => rfl) hl.2.2
  · simp [mapTop_len]; omega
  · intro i hi
    simp only at hi
    rcases List.mem_append.1 hi with hi | hi
    · have := h.lis i (by rw [← e.li]; exact List.dropLast_subset _ hi); omega
    · rw [List.mem_singleton] at hi; subst hi; omega
  · simp only [e.lk]; omega
  · simp only [e.ce]; omega
  · simp only [e.fl]; omega
theorem take_ok12 {s : Wk} {y : Ly} {k T : Nat} {wd : Int} {ch : List S6.Chg} {st tp : Int} (n : Int) (t : ByteArray) (ws : List Int) (hw : 10 ≤ wd ∧ wd ≤ 200) (h : LyOk s y k T) (hf : Ir.fitB ⟨12, n, t, ws⟩ st tp = true) (hm : mayS s 12 = true) : LyOk (takeS s ⟨12, n, t, ws⟩) (takeY wd ch y ⟨12, n, t, ws⟩) (k + 1) (T + t.size) := by
  have hfl := h.fl
  have hlk := h.lk
  have hcel := h.cel
  have hbrl := h.brl
  have hopl := h.opl
  rw [takeS_op _ _ _ _ _ (by decide), takeY_12]
  -- a table
  simp [mayS] at hm
  have hcf := cols_full (ws := ws) hw (by simp [Ir.fitB] at hf; exact hf.1.1)
  have hop : s.op = [] := hm.2
  have hli : y.li.length = 0 := by
    rcases h.kind with ⟨k1, k2, k3⟩ | ⟨k1, k2, k3, k4⟩
    · rw [k2, hop]; rfl
    · exact k2
  refine ⟨h.mok.like rfl rfl rfl rfl, h.lns.like rfl rfl rfl, ?_, ?_, ?_, ?_, ?_, fun i hi => by have := h.lis i hi; omega, ?_, ?_, fun f hf => by have := h.ce f hf; omega, ?_⟩
  · have := h.lo; simp at this ⊢; exact this
  · have := h.br; simpa using this
  · simp; omega
  · refine .inr ⟨hcf.1, hli, by simp [hop], ?_⟩
    intro o ho
    simp [hop] at ho
    rw [ho]
    exact hcf.2
  · simp [hop]
  · simp only; omega
  · simp only; omega
  · simp only; omega
theorem take_ok13 {s : Wk} {y : Ly} {k T : Nat} {wd : Int} {ch : List S6.Chg} {st tp : Int} (n : Int) (t : ByteArray) (ws : List Int) (hw : 10 ≤ wd ∧ wd ≤ 200) (h : LyOk s y k T) (hf : Ir.fitB ⟨13, n, t, ws⟩ st tp = true) (hm : mayS s 13 = true) : LyOk (takeS s ⟨13, n, t, ws⟩) (takeY wd ch y ⟨13, n, t, ws⟩) (k + 1) (T + t.size) := by
  have hfl := h.fl
  have hlk := h.lk
  have hcel := h.cel
  have hbrl := h.brl
  have hopl := h.opl
  rw [takeS_it _ _ _ _ _ (by decide), takeY_13]
  -- a row
  simp [mayS] at hm
  have hl := h.tab hm.1.1.1 hm.1.2
  have e1 : ∃ y1 : Ly, Sm y1 y ∧ MkOk y1 ∧ LsOk y1 ∧ ∃ ce', (ce' = [] ∨ ce' = y.ce) ∧ ({ rowY y with ah := 13 } : Ly) = { ({ y1 with ce := ce' } : Ly) with ah := 13 } := by
    unfold rowY
    split
    · exact ⟨y, Sm.refl y, h.mok, h.lns, _, .inr rfl, rfl⟩
    · have h2 := fold_tell (ls := rowL y.co y.ce) (fun l hl => rowL_small hl) h.mok h.lns
      exact ⟨_, sm_fold sm_tell (rowL y.co y.ce) y, h2.1, h2.2, _, .inl rfl, rfl⟩
  obtain ⟨y1, e, hmk, hls, ce', hce, e1⟩ := e1
  rw [e1]
  have hc1 : ce'.length ≤ k ∧ ∀ f ∈ ce', f.length ≤ k + T := by
    rcases hce with rfl | rfl
    · exact ⟨Nat.zero_le _, fun f hf => by simp at hf⟩
    · exact ⟨hcel, h.ce⟩
  refine ⟨hmk.like rfl rfl rfl rfl, hls.like rfl rfl rfl, ?_, ?_, ?_, ?_, ?_, fun i hi => by have := h.lis i (by simp only at hi; rw [e.li] at hi; exact hi); omega, ?_, ?_, fun f hf => by have := hc1.2 f hf; omega, ?_⟩
  · have := h.lo; simp [e.lo] at this ⊢; exact this
  · have := h.br; simpa using this
  · simp; omega
  · refine .inr ⟨by simp only [e.co]; exact hl.1, by simp only [e.li]; exact hl.2.1, by simp [mapTop_len]; exact hl.2.2.1, ?_⟩
    exact mapTop_wide (P := fun v => 0 < v) (f := fun l => { l with parts := l.parts + 1, cells := 0 }) (fun x => rfl) hl.2.2.2
  · simp [mapTop_len]; omega
  · simp only [e.lk]; omega
  · simp only; omega
  · simp only [e.fl]; omega
theorem take_ok14 {s : Wk} {y : Ly} {k T : Nat} {wd : Int} {ch : List S6.Chg} {st tp : Int} (n : Int) (t : ByteArray) (ws : List Int) (hw : 10 ≤ wd ∧ wd ≤ 200) (h : LyOk s y k T) (hf : Ir.fitB ⟨14, n, t, ws⟩ st tp = true) (hm : mayS s 14 = true) : LyOk (takeS s ⟨14, n, t, ws⟩) (takeY wd ch y ⟨14, n, t, ws⟩) (k + 1) (T + t.size) := by
  have hfl := h.fl
  have hlk := h.lk
  have hcel := h.cel
  have hbrl := h.brl
  have hopl := h.opl
  rw [takeS_14, takeY_14]
  -- an end
  simp [mayS] at hm
  have hk : s.op.length ≠ 0 := by have := hm.1.2; omega
  unfold endY
  by_cases hc : y.co.length = 0
  · rw [if_pos hc]
    have hl : y.li.length = s.op.length ∧ ∀ o ∈ s.op, o.wide = 0 := by
      rcases h.kind with ⟨k1, k2, k3⟩ | ⟨k1, k2, k3, k4⟩
      · exact ⟨k2, k3⟩
      · omega
    have h0 : 0 < y.li.length := by omega
    have e := sm_settle y
    have hm1 := h.mok.settle
    have hl1 := h.lns.settle h.mok
    have q1 := settle_none y
    obtain ⟨y1, hy1⟩ : ∃ y1, settleY y = y1 := ⟨_, rfl⟩
    rw [hy1] at e hm1 hl1 q1 ⊢
    have hlast := h.lis (lastLi y1) (by
      have := lastLi_mem h0
      unfold lastLi at this ⊢
      rw [e.li]
      exact this)
    dsimp only
    refine ⟨⟨hm1.pl0, ?_, hlast.1.2, hm1.ls⟩, hl1.like rfl rfl rfl, ?_, ?_, ?_, ?_, ?_, ?_, ?_, ?_, fun f hf => by have := h.ce f (by simp only at hf; rw [e.ce] at hf; exact hf); omega, ?_⟩
    · have := hl1.2 q1; simp only; omega
    · have := h.lo; simp [e.lo] at this ⊢; exact this
    · have := h.br; simpa using this
    · simp; omega
    · refine .inl ⟨by simp only [e.co]; exact hc, by simp [e.li]; omega, ?_⟩
      intro o ho
      simp at ho
      exact hl.2 o (List.dropLast_subset _ ho)
    · simp; omega
    · intro i hi
      simp only at hi
      have := h.lis i (by rw [← e.li]; exact List.dropLast_subset _ hi); omega
    · simp only [e.lk]; omega
    · simp only [e.ce]; omega
    · simp only [e.fl]; omega
  · rw [if_neg hc]
    have hl : y.li.length = 0 ∧ s.op.length = 1 := by
      rcases h.kind with ⟨k1, k2, k3⟩ | ⟨k1, k2, k3, k4⟩
      · exact absurd k1 hc
      · exact ⟨k2, k3⟩
    have e1 : ∃ y1 : Ly, Sm y1 y ∧ MkOk y1 ∧ LsOk y1 ∧ ∃ ce', (ce' = [] ∨ ce' = y.ce) ∧ rowY y = { y1 with ce := ce' } := by
      unfold rowY
      split
      · exact ⟨y, Sm.refl y, h.mok, h.lns, _, .inr rfl, rfl⟩
      · have h2 := fold_tell (ls := rowL y.co y.ce) (fun l hl => rowL_small hl) h.mok h.lns
        exact ⟨_, sm_fold sm_tell (rowL y.co y.ce) y, h2.1, h2.2, _, .inl rfl, rfl⟩
    obtain ⟨y1, e, hmk, hls, ce', hce, e1⟩ := e1
    rw [e1]
    have hc1 : ce'.length ≤ k ∧ ∀ f ∈ ce', f.length ≤ k + T := by
      rcases hce with rfl | rfl
      · exact ⟨Nat.zero_le _, fun f hf => by simp at hf⟩
      · exact ⟨hcel, h.ce⟩
    refine ⟨hmk.like rfl rfl rfl rfl, hls.like rfl rfl rfl, ?_, ?_, ?_, ?_, ?_, fun i hi => by have := h.lis i (by simp only at hi; rw [e.li] at hi; exact hi); omega, ?_, ?_, fun f hf => by have := hc1.2 f hf; omega, ?_⟩
    · have := h.lo; simp [e.lo] at this ⊢; exact this
    · have := h.br; simpa using this
    · simp; omega
    · have hd : s.op.dropLast = [] := List.eq_nil_of_length_eq_zero (by simp; omega)
      refine .inl ⟨rfl, by simp only [e.li]; simp; omega, ?_⟩
      intro o ho
      simp [hd] at ho
    · simp; omega
    · simp only [e.lk]; omega
    · simp only; omega
    · simp only [e.fl]; omega
/-- Behind an operation that may come next. -/
theorem take_ok {s : Wk} {y : Ly} {k T : Nat} {wd : Int} {ch : List S6.Chg} {x : Opr} {st tp : Int} (hw : 10 ≤ wd ∧ wd ≤ 200) (h : LyOk s y k T) (hf : Ir.fitB x st tp = true) (hm : mayS s x.k = true) : LyOk (takeS s x) (takeY wd ch y x) (k + 1) (T + x.t.size) := by
  have hk14 : 1 ≤ x.k ∧ x.k ≤ 14 := by
    by_cases h : 1 ≤ x.k ∧ x.k ≤ 14
    · exact h
    · rw [Ir.may_other h] at hm; cases hm
  obtain ⟨kd, n, t, ws⟩ := x
  dsimp only at hk14 hm ⊢
  have cs : kd = 1 ∨ kd = 2 ∨ kd = 3 ∨ kd = 4 ∨ kd = 5 ∨ kd = 6 ∨ kd = 7 ∨ kd = 8 ∨ kd = 9 ∨ kd = 10 ∨ kd = 11 ∨ kd = 12 ∨ kd = 13 ∨ kd = 14 := by omega
  rcases cs with rfl | rfl | rfl | rfl | rfl | rfl | rfl | rfl | rfl | rfl | rfl | rfl | rfl | rfl
  · exact take_ok1 n t ws hw h hf hm
  · exact take_ok2 n t ws hw h hf hm
  · exact take_ok3 n t ws hw h hf hm
  · exact take_ok4 n t ws hw h hf hm
  · exact take_ok5 n t ws hw h hf hm
  · exact take_ok6 n t ws hw h hf hm
  · exact take_ok7 n t ws hw h hf hm
  · exact take_ok8 n t ws hw h hf hm
  · exact take_ok9 n t ws hw h hf hm
  · exact take_ok10 n t ws hw h hf hm
  · exact take_ok11 n t ws hw h hf hm
  · exact take_ok12 n t ws hw h hf hm
  · exact take_ok13 n t ws hw h hf hm
  · exact take_ok14 n t ws hw h hf hm
end Go.Proofs.YtjohhahfpgfjdaaGreatDoor.Tb
end
section
namespace Go.Proofs.YtjohhahfpgfjdaaGreatDoor.Tb
open Go.RowKit Go.Maps
set_option linter.unusedVariables false
set_option linter.unusedSimpArgs false
theorem post_to {op op' : Bool} {B M : Nat} {K : Nat → Prop} {wd : Int} {ch : List S6.Chg} {y : Ly} {v : Value} {w : World} (h : op = op') {e : Ending} {w' : World} (hp : LyPost op B M K wd ch y v w e w') : LyPost op' B M K wd ch y v w e w' := by
  subst h; exact hp
theorem take_any {B M : Nat} {K : Nat → Prop} {wd : Int} {ch : List S6.Chg} {y : Ly} {s : Wk} {k T st : Nat} {tp : Int} {P : Nat → Prop} (x : Opr) (pw : Option Addr) (cw : Nat) (w : World) (h : LyI s.para B M K wd ch y w) (ho : LyOk s y k T)
    (hf : Ir.fitB x st tp = true) (hm : mayS s x.k = true) (hr : Ir.RdZ P w (.slice pw x.w.length cw) x.w) (hw : 10 ≤ wd ∧ wd ≤ 200) (hT : TbL B w) (hKB : ∀ b, b < B → K b) (hst : ch.length = st) (hk : k ≤ 65536) (hS : T + x.t.size ≤ 16384) :
    Calls Tryz.prog 28 #[.pointer (some ⟨M, 0, none⟩), .agg #[.int .i64 x.k, .int .i64 x.n, .string x.t, .slice pw x.w.length cw]] w (LyPost (takeS s x).para B M K wd ch (takeY wd ch y x) (.tuple #[]) w) := by
  have hk14 : 1 ≤ x.k ∧ x.k ≤ 14 := by
    by_cases h : 1 ≤ x.k ∧ x.k ≤ 14
    · exact h
    · rw [Ir.may_other h] at hm; cases hm
  obtain ⟨kd, n, t, ws⟩ := x
  dsimp only at hk14 hm hr hS ⊢
  have hfl := ho.fl
  have hlk := ho.lk
  have hcel := ho.cel
  have hbrl := ho.brl
  have hce := ho.ce
  have hlo := ho.lo
  have h0 : 0 < y.lo.length := by rw [hlo]; split <;> omega
  have cs : kd = 1 ∨ kd = 2 ∨ kd = 3 ∨ kd = 4 ∨ kd = 5 ∨ kd = 6 ∨ kd = 7 ∨ kd = 8 ∨ kd = 9 ∨ kd = 10 ∨ kd = 11 ∨ kd = 12 ∨ kd = 13 ∨ kd = 14 := by omega
  have hce' : ∀ f ∈ y.ce, f.length ≤ 1000000 := fun f hf => by have := hce f hf; omega
  rcases cs with rfl | rfl | rfl | rfl | rfl | rfl | rfl | rfl | rfl | rfl | rfl | rfl | rfl | rfl
  · simp [mayS] at hm
    rw [hm.1] at h
    exact (ltake_1 n t ws pw ws.length cw w h h0 (by omega)).mono fun e w' hp => post_to (by rw [takeS_1]; exact hm.1.symm) hp
  · simp [mayS] at hm
    rw [hm.2] at h hlo
    rw [if_pos rfl] at hlo
    simp [Ir.fitB] at hf
    exact (ltake_2 n t ws pw ws.length cw w h h0 (by omega) (by omega)).mono fun e w' hp => post_to (by rw [takeS_br _ _ _ _ _ (by decide)]; exact hm.2.symm) hp
  · simp [mayS] at hm
    rw [hm.2] at h hlo
    rw [if_pos rfl] at hlo
    exact (ltake_3 n t ws pw ws.length cw w h h0 (by omega) (by omega)).mono fun e w' hp => post_to (by rw [takeS_br _ _ _ _ _ (by decide)]; exact hm.2.symm) hp
  · simp [mayS] at hm
    rw [hm.2] at h hlo
    rw [if_pos rfl] at hlo
    exact (ltake_4 n t ws pw ws.length cw w h h0 (by omega) (by omega)).mono fun e w' hp => post_to (by rw [takeS_br _ _ _ _ _ (by decide)]; exact hm.2.symm) hp
  · exact (ltake_5 n t ws pw ws.length cw w h h0).mono fun e w' hp => post_to (by rw [takeS_5]) hp
  · simp [mayS] at hm
    rw [hm] at h
    exact (ltake_6 n t ws pw ws.length cw w h h0 (by omega)).mono fun e w' hp => post_to (by rw [takeS_6]; exact hm.symm) hp
  · simp [mayS] at hm
    rw [hm] at h
    exact (ltake_7 n t ws pw ws.length cw w h h0 (by omega)).mono fun e w' hp => post_to (by rw [takeS_7]; exact hm.symm) hp
  · simp [mayS] at hm
    rw [hm.1] at hlo
    rw [if_neg (by decide)] at hlo
    simp [Ir.fitB] at hf
    exact (ltake_8 n t ws pw ws.length cw w h h0 (by omega) ho.mok.ls (by omega)).mono fun e w' hp => post_to (by rw [takeS_8]) hp
  · simp [mayS] at hm
    rw [hm.1] at h
    by_cases hc : y.co.length = 0
    · exact (ltake_9l n t ws pw ws.length cw w h h0 hc hw ho.mok (by omega)).mono fun e w' hp => post_to (by rw [takeS_9]) hp
    · exact (ltake_9c n t ws pw ws.length cw w h h0 (by omega) (by omega)).mono fun e w' hp => post_to (by rw [takeS_9]) hp
  · simp [mayS] at hm
    have hl := ho.lists hm.1.1.2
    have := ho.opl
    exact (ltake_10 n t ws pw ws.length cw w h ho.mok (by omega)).mono fun e w' hp => post_to (by rw [takeS_op _ _ _ _ _ (by decide)]) hp
  · simp [mayS] at hm
    have hl := ho.lists hm.2
    have h1 : 0 < y.li.length := by rw [hl.2.1]; exact hm.1.2
    have hi := ho.lis _ (lastLi_mem h1)
    exact (ltake_11 n t ws pw ws.length cw w h hT hKB ho.mok h1 hi.1 (by omega) hw).mono fun e w' hp => post_to (by rw [takeS_it _ _ _ _ _ (by decide)]) hp
  · exact (ltake_12 n t ws pw ws.length cw w h (rdz_ir hr) hw).mono fun e w' hp => post_to (by rw [takeS_op _ _ _ _ _ (by decide)]) hp
  · exact (ltake_13 n t ws pw ws.length cw w h ho.mok.ls hce').mono fun e w' hp => post_to (by rw [takeS_it _ _ _ _ _ (by decide)]) hp
  · simp [mayS] at hm
    by_cases hc : y.co.length = 0
    · have h1 : 0 < y.li.length := by
        rcases ho.kind with ⟨k1, k2, k3⟩ | ⟨k1, k2, k3, k4⟩
        · have := hm.1.2; omega
        · omega
      exact (ltake_14l n t ws pw ws.length cw w h ho.mok hc h1).mono fun e w' hp => post_to (by rw [takeS_14]) hp
    · exact (ltake_14t n t ws pw ws.length cw w h ho.mok.ls hce' (by omega)).mono fun e w' hp => post_to (by rw [takeS_14]) hp
end Go.Proofs.YtjohhahfpgfjdaaGreatDoor.Tb
end
section
namespace Go.Proofs.YtjohhahfpgfjdaaGreatDoor.Tb
open Go.RowKit Go.Maps
set_option linter.unusedVariables false
set_option linter.unusedSimpArgs false
def lyz : Ly := ⟨⟨#[]⟩, 0, [], false, [], 0, [], 0, [], [], [], [], 0⟩
theorem lyz_lay : layY lyz plainK false = ly0 := rfl
def zero93 (wd : Int) (v : Value) : Array Value := #[.string ⟨#[]⟩, .int .i64 0, .int .i64 wd, v, .slice none 0 0, .bool false, .slice none 0 0, .int .i64 0, .int .i64 0, .int .i64 0, .bool false, .int .i64 0, .int .i64 0, .bool false, .int .i64 0, .int .i64 0, .bool false, .int .i64 0, .int .i64 0, .bool false, .int .i64 0, .int .i64 0, .bool false, .int .i64 0, .int .i64 0, .bool false, .int .i64 0, .int .i64 0, .bool false, .int .i64 0, .int .i64 0, .bool false, .int .i64 0, .int .i64 0, .bool false, .int .i64 0, .int .i64 0, .bool false, .int .i64 0, .int .i64 0, .bool false, .int .i64 0, .int .i64 0, .bool false, .int .i64 0, .int .i64 0, .bool false, .int .i64 0, .int .i64 0, .bool false, .int .i64 0, .int .i64 0, .bool false, .int .i64 0, .int .i64 0, .bool false, .int .i64 0, .int .i64 0, .bool false, .int .i64 0, .int .i64 0, .bool false, .int .i64 0, .int .i64 0, .bool false, .int .i64 0, .int .i64 0, .bool false, .int .i64 0, .int .i64 0, .bool false, .int .i64 0, .int .i64 0, .bool false, .int .i64 0, .int .i64 0, .bool false, .int .i64 0, .int .i64 0, .bool false, .int .i64 0, .int .i64 0, .bool false, .int .i64 0, .int .i64 0, .bool false, .int .i64 0, .int .i64 0, .int .i64 0, .slice none 0 0, .slice none 0 0, .slice none 0 0, .int .i64 0]
theorem zero93_ok (wd : Int) (v : Value) : LyC (zero93 wd v) wd lyz v nilV nilV nilV nilV nilV :=
  ⟨rfl, rfl, rfl, rfl, rfl, rfl, rfl, rfl, rfl, rfl, rfl, rfl, rfl, rfl, rfl, rfl, fun j hj => absurd hj (by simp [lyz]), fun j hj => absurd hj (by simp [lyz]), by simp [lyz], by simp [lyz]⟩
theorem zero93_eq (wd : Int) : Tryz.zeroCells93.setIfInBounds 2 (.int .i64 wd) = zero93 wd (.slice none 0 0) := by kernel_rfl
theorem zero93_set (wd : Int) (v u : Value) : (zero93 wd v).setIfInBounds 3 u = zero93 wd u := rfl
theorem infoCh : (Tryz.prog.info? 64).map (fun i => (i.zero, i.size, i.bytes)) = some (some (.agg #[.int .i64 0, .int .i64 0, .int .i64 0]), 3, 24) := by kernel_rfl
def chgRow (c : S6.Chg) : List Value := [.int .i64 c.on, .int .i64 c.off, .int .i64 c.col]
def rowsH (l : List S6.Chg) : List Value := l.flatMap chgRow
theorem rowsH_len : ∀ l : List S6.Chg, (rowsH l).length = l.length * 3
  | [] => rfl
  | r :: l => by
    have := rowsH_len l
    unfold rowsH at this ⊢
    rw [List.flatMap_cons, List.length_append, this, List.length_cons]
    simp [chgRow]
    omega
theorem rowsH_at : ∀ (l : List S6.Chg) (j k : Nat) (hj : j < l.length), k < 3 → (rowsH l)[j * 3 + k]? = (chgRow l[j])[k]?
  | [], j, k, hj, _ => absurd hj (by simp)
  | r :: l, 0, k, _, hk => by
    unfold rowsH
    rw [List.flatMap_cons, Nat.zero_mul, Nat.zero_add, List.getElem?_append_left (by simp [chgRow]; exact hk)]
    rfl
  | r :: l, j + 1, k, hj, hk => by
    have h := rowsH_at l j k (by simpa using hj) hk
    unfold rowsH at h ⊢
    rw [List.flatMap_cons, List.getElem?_append_right (by simp [chgRow]; omega), show (chgRow r).length = 3 from rfl, show (j + 1) * 3 + k - 3 = j * 3 + k by omega, h]
    simp
theorem rowsH_snoc (l : List S6.Chg) (r : S6.Chg) : rowsH (l ++ [r]) = rowsH l ++ chgRow r := by simp [rowsH]
theorem chgRow_one (r : S6.Chg) : ∀ u ∈ chgRow r, u.oneCell' = true := by
  intro u hr
  simp only [chgRow, List.mem_cons, List.not_mem_nil, or_false] at hr
  rcases hr with rfl | rfl | rfl <;> rfl
theorem RdH.own {w : World} {v : Value} {cs : List S6.Chg} {base n : Nat} (h : w.ownsRow base 64 3 v n (rowsH cs)) (hn : n = cs.length) : RdH (fun b => v.ownBlock = some b ∧ base ≤ b) w v cs := by
  subst hn
  rcases h.2 with ⟨rfl, h0⟩ | ⟨g, cap, cur, rfl, hb, hg, h1, h2, h3, h4⟩
  · have : cs = [] := List.eq_nil_of_length_eq_zero h0
    subst this
    exact ⟨none, 0, rfl, Nat.le_refl _, Nat.zero_le _, fun i hi => absurd hi (by simp)⟩
  · refine ⟨_, cap, rfl, h1, h2, fun j hj => ⟨g, 0, rfl, ⟨rfl, hb⟩, ?_⟩⟩
    have c : ∀ k, k < 3 → w.cell? ⟨g, j * 3 + k, none⟩ = (chgRow cs[j])[k]? := fun k hk => by
      rw [World.ownsRow.cellAt h (j * 3 + k) (by have := rowsH_len cs; omega), rowsH_at cs j k hj hk]
    rw [Nat.zero_add]
    exact ⟨c 0 (by omega), c 1 (by omega), c 2 (by omega)⟩
set_option maxRecDepth 100000 in
set_option maxHeartbeats 8000000 in
theorem begin_pro (sh : List S6.Sty) (v : Value) (wd : Int) (w : World) (h : S6.Sh w v sh) (hf : S6.Fit sh) (hn : sh.length ≤ 100000) :
    Calls Tryz.prog 27 #[v, .int .i64 wd] w (fun e w' => ∃ M, e = .returned (.pointer (some ⟨M, 0, none⟩)) ∧ LyI false w.heap.size M (fun b => b < w.heap.size) wd (chgs sh) ly0 w' ∧ Below w.heap.size w w') := by
  obtain ⟨i0, hi0, hz0, hz1, hz2⟩ := info_parts infoCh
  obtain ⟨pa, cap, rfl, hc1, hc2⟩ := h.form
  have HS := Lib.hid h
  have HFt := Lib.hid hf
  obtain ⟨n, hnn⟩ : ∃ n, sh.length = n := ⟨_, rfl⟩
  have HN := Lib.hid hnn
  rw [hnn] at HS hn ⊢
  have HCL := Lib.hid (show (chgs sh).length = n by simp [chgs, hnn])
  obtain ⟨M, hM⟩ : ∃ M, w.heap.size = M := ⟨_, rfl⟩
  have HM := Lib.hid hM
  have hA := below_box w (.cells (zero93 wd (.slice none 0 0)) 93)
  have HA := Lib.hid hA
  have HX := Lib.hid (heap_alloc_new w (.cells (zero93 wd (.slice none 0 0)) 93))
  rw [hM] at HX HA ⊢
  obtain ⟨W1, hW1⟩ : ∃ W1, w.alloc (.cells (zero93 wd (.slice none 0 0)) 93) = W1 := ⟨_, rfl⟩
  rw [hW1] at HA HX
  have hW1' := hW1
  rw [← zero93_eq] at hW1'
  have mixed : Tryz.prog.follows .mixedOrders = true := by kernel_rfl
  clear h hf hnn hc1 hA hW1
  go_enter Tryz.func27, Tryz.ntmps27
  go_wp2_with fail
  try simp only [hW1', hM]
  go_loopw [15] (fun i wr => ∃ (k : Nat) (vh : Value), i = .int .i64 k ∧ k ≤ n ∧ Hid (wr.heap[M]? = some (.cells (zero93 wd vh) 93 (0, 0))) ∧ Hid (wr.ownsRow M 64 3 vh k (rowsH ((chgs sh).take k))) ∧ Hid (Below M w wr)) (fun i _ => n - (intOf i).toNat)
  case atStart => exact ⟨0, _, rfl, Nat.zero_le _, HX, Lib.hid (World.ownsRow_nil _ _ _ _), HA⟩
  case round =>
    obtain ⟨k, vh, rfl, hk, HK, HO, HB⟩ := hrel
    by_cases hlt : k < n
    · have hkl : k < sh.length := by rw [HN.out]; exact hlt
      have k1 : (k : Int) < n := by omega
      have HLT := Lib.hid hlt
      have hsl := (HS.out.below (HB.out.mono (by rw [HM.out]; exact Nat.le_refl _)))
      obtain ⟨b, off, rfl, c0, c1, c2, c3, c4⟩ := hsl.cells hkl
      have HSN := Lib.hid (show (chgs sh).take (k + 1) = (chgs sh).take k ++ [(S6.wholeM sh (S6.gets sh k).nm).1] by
        rw [List.take_succ_eq_append_getElem (by rw [HCL.out]; exact hlt)]
        simp [chgs, S6.gets_eq hkl])
      obtain ⟨x, hx⟩ : ∃ x, S6.gets sh k = x := ⟨_, rfl⟩
      rw [hx] at c0 c1 c2 c3 c4 HSN
      have hbx := below_box wr (.cells #[.string (S6.bs x.nm), .string (S6.bs x.pr), .int .i64 x.ch.on, .int .i64 x.ch.off, .int .i64 x.ch.col] 66)
      have HBX := Lib.hid hbx
      have HWh := Lib.hid (S6.Whole_pro sh x.nm _ _ (hsl.below hbx) HFt.out)
      have HX5 := Lib.hid (heap_alloc_new wr (.cells #[.string (S6.bs x.nm), .string (S6.bs x.pr), .int .i64 x.ch.on, .int .i64 x.ch.off, .int .i64 x.ch.col] 66))
      unfold S6.chgE S6.chgVal at HWh
      obtain ⟨⟨g, er⟩, hg⟩ : ∃ g, S6.wholeM sh x.nm = g := ⟨_, rfl⟩
      rw [hg] at HWh HSN
      dsimp only at HWh HSN
      obtain ⟨nm, hnm⟩ : ∃ t, S6.bs x.nm = t := ⟨_, rfl⟩
      obtain ⟨pr, hpr⟩ : ∃ t, S6.bs x.pr = t := ⟨_, rfl⟩
      obtain ⟨W2, hW2⟩ : ∃ W2, wr.alloc (.cells #[.string nm, .string pr, .int .i64 x.ch.on, .int .i64 x.ch.off, .int .i64 x.ch.col] 66) = W2 := ⟨_, rfl⟩
      obtain ⟨sb, hsb⟩ : ∃ sb, wr.heap.size = sb := ⟨_, rfl⟩
      rw [hnm, hpr] at HWh HX5 HBX
      rw [hnm] at c0
      rw [hpr] at c1
      rw [hW2] at HWh HX5 HBX
      rw [hsb] at HX5
      have hx5 := HX5.out
      have e0 : W2.cell? ⟨sb, 0, none⟩ = some (.string nm) := by rw [cell_of_row _ _ _ _ _ _ hx5]; rfl
      clear hsl hx hbx hg hnm hpr hx5 hlt hkl
      obtain ⟨pv, cv, rfl⟩ := lenL HO.out
      go_wp2_with fail
      try simp only [hW2, hsb]
      refine HWh.out.mono ?_
      rintro e w3 ⟨rfl, hb3⟩
      have hB3 : Below wr.heap.size wr w3 := HBX.out.trans (hb3.mono HBX.out.size)
      have HB4 := Lib.hid (hB3.trans ((below_box w3 (.cells #[.int .i64 g.on, .int .i64 g.off, .int .i64 g.col] 64)).mono hB3.size))
      have HX4 := Lib.hid (heap_alloc_new w3 (.cells #[.int .i64 g.on, .int .i64 g.off, .int .i64 g.col] 64))
      obtain ⟨cb, hcb⟩ : ∃ cb, w3.heap.size = cb := ⟨_, rfl⟩
      obtain ⟨W4, hW4⟩ : ∃ W4, w3.alloc (.cells #[.int .i64 g.on, .int .i64 g.off, .int .i64 g.col] 64) = W4 := ⟨_, rfl⟩
      rw [hW4] at HB4 HX4
      rw [hcb] at HX4
      have hx4 := HX4.out
      have hMl : M < wr.heap.size := (Array.getElem?_eq_some_iff.1 HK.out).1
      have HK4 := Lib.hid ((HB4.out.block M hMl).trans HK.out)
      have HO4 := Lib.hid (own_below HO.out HB4.out)
      have HM4 := Lib.hid (show M < W4.heap.size from (Array.getElem?_eq_some_iff.1 HK4.out).1)
      have d0 : W4.cell? ⟨cb, 0, none⟩ = some (.int .i64 g.on) := by rw [cell_of_row _ _ _ _ _ _ hx4]; rfl
      have d1 : W4.cell? ⟨cb, 1, none⟩ = some (.int .i64 g.off) := by rw [cell_of_row _ _ _ _ _ _ hx4]; rfl
      have d2 : W4.cell? ⟨cb, 2, none⟩ = some (.int .i64 g.col) := by rw [cell_of_row _ _ _ _ _ _ hx4]; rfl
      have d3 : W4.cell? ⟨M, 3, none⟩ = some (.slice pv k cv) := by rw [cell_of_row _ _ _ _ _ _ HK4.out]; rfl
      have hq := below_box W4 (.cells #[.int .i64 g.on, .int .i64 g.off, .int .i64 g.col] 64)
      have q0 := (hq.cell (p := ⟨cb, 0, none⟩) (cellInL d0)).trans d0
      have q1 := (hq.cell (p := ⟨cb, 1, none⟩) (cellInL d1)).trans d1
      have q2 := (hq.cell (p := ⟨cb, 2, none⟩) (cellInL d2)).trans d2
      have q3 := (hq.cell (p := ⟨M, 3, none⟩) (cellInL d3)).trans d3
      have hq2 := below_box W4.drew (.cells #[.int .i64 g.on, .int .i64 g.off, .int .i64 g.col] 64)
      have HO5 := Lib.hid (own_below (show W4.drew.ownsRow M 64 3 (.slice pv k cv) k (rowsH ((chgs sh).take k)) from HO4.out) hq2)
      have HK5 := Lib.hid ((hq2.block M HM4.out).trans (show W4.drew.heap[M]? = _ from HK4.out))
      have L1 := Lib.hid (show k + 1 ≤ maxLen by unfold maxLen; omega)
      have L2 := Lib.hid (show (k + 1) * 24 ≤ 140737488355328 by omega)
      have L3 := Lib.hid (show M ≤ (W4.drew.alloc (.cells #[.int .i64 g.on, .int .i64 g.off, .int .i64 g.col] 64)).heap.size by have := hq2.size; have := HM4.out; have h9 : W4.drew.heap.size = W4.heap.size := rfl; omega)
      have HNV := Lib.hid (own_not HO5.out HK5.out (by decide))
      have HBD := Lib.hid ((HB.out.trans (HB4.out.mono (Nat.le_of_lt hMl))).drew.trans (hq2.mono (Nat.le_of_lt HM4.out)))
      clear hb3 hB3 hx4 hMl hq hq2 e0 c0 c1 c2 c3 c4
      go_wp2_with fail
      try simp only [hW4, hcb]
      go_region_law (refine step_append_lies _ rfl (.tmp 30) (.tmp 32) 62 rfl M 64 i0 _ 3 24 Tryz.underlying62 hi0 hz0 hz1 hz2 rfl (by decide) (.slice pv k cv) k (rowsH ((chgs sh).take k)) (by simp [Act.eval]) HO5.out ⟨W4.heap.size, 0, none⟩ 1 1 (chgRow g) (by simp [Act.eval]) rfl (cells_newL _ _ _) (chgRow_one g) (by decide) L1.out L2.out L3.out _ rfl ?_; intro g' cap' w5 hown' hgrow hat _; have HW5 := Lib.hid hown'; have hgk := (hgrow.block M (Array.getElem?_eq_some_iff.1 HK5.out).1 (fun e => HNV.out e.symm)).trans HK5.out; have HGK := Lib.hid hgk; have r3 : w5.cell? ⟨M, 3, none⟩ = some (.slice pv k cv) := (by rw [cell_of_row _ _ _ _ _ _ hgk]; rfl); have f3 : w5.frozen? ⟨M, 3, none⟩ = false := frozen_of_row w5 M 3 _ _ hgk; have HB5 := Lib.hid (HBD.out.grown hgrow L3.out (fun b hb => (own_base HO5.out hb).1)); have HAT := Lib.hid (show g' ≠ M from fun e => (by rcases hat with h | h; exact HNV.out (by rw [h, e]); exact absurd (e.symm.trans h) (Nat.ne_of_lt (Array.getElem?_eq_some_iff.1 HK5.out).1))); clear hown' hgrow hat hgk)
      all_goals
        have hk6 : (w5.setCell ⟨M, 3, none⟩ (.slice (some ⟨g', 0, none⟩) (k + 1) cap')).heap[M]? = some (.cells (zero93 wd (.slice (some ⟨g', 0, none⟩) (k + 1) cap')) 93 (0, 0)) := by
          have h9 := heap_setCell_same w5 M 3 _ _ (.slice (some ⟨g', 0, none⟩) (k + 1) cap') HGK.out
          rw [zero93_set] at h9
          exact h9
        have HK6 := Lib.hid hk6
        have HO6 := Lib.hid (show (w5.setCell ⟨M, 3, none⟩ (.slice (some ⟨g', 0, none⟩) (k + 1) cap')).ownsRow M 64 3 (.slice (some ⟨g', 0, none⟩) (k + 1) cap') (k + 1) (rowsH ((chgs sh).take (k + 1))) by
          rw [HSN.out, rowsH_snoc]
          exact own_stays HW5.out fun b e => Below.heap_setCell _ _ _ _ (by simp only [Value.ownBlock, Option.some.injEq] at e; rw [← e]; exact HAT.out))
        have HB6 := Lib.hid (HB5.out.setCell (p := ⟨M, 3, none⟩) (Nat.le_refl _) (.slice (some ⟨g', 0, none⟩) (k + 1) cap'))
        clear hk6
        go_wp2_with fail
        go_roundw
        case measure => have := HLT.out; simp [intOf]; omega
        case rel => exact ⟨k + 1, _, by go_num, HLT.out, HK6, HO6, HB6⟩
    · obtain rfl : k = n := by omega
      have hzk : ¬ (k : Int) < k := by omega
      have hO : wr.ownsRow M 64 3 vh k (rowsH (chgs sh)) := by
        have h9 := HO.out
        rw [List.take_of_length_le (by rw [HCL.out]; exact Nat.le_refl _)] at h9
        exact h9
      have hch : RdH (TlB M M nilV nilV nilV nilV) wr vh (chgs sh) := (RdH.own hO HCL.out.symm).move fun b h1 _ => ⟨rfl, h1.2, (fun e => by rw [e] at h1; exact own_not hO HK.out (by decide) h1.1), by simp [nilV, Value.ownBlock], by simp [nilV, Value.ownBlock], by simp [nilV, Value.ownBlock], by simp [nilV, Value.ownBlock]⟩
      have HLY := Lib.hid (show LyI false M M (fun b => b < M) wd (chgs sh) lyz wr from ⟨vh, nilV, nilV, nilV, nilV, nilV, nilV, [], [], _, ⟨Nat.le_refl _, HK.out, zero93_ok wd vh, hch, OwnL.nil _ _ _, World.ownsRow_nil _ _ _ _, RdC.nilC _, OwnL.nil _ _ _, World.ownsRow_nil _ _ _ _, fun b e => by simp [nilV, Value.ownBlock], fun b hb => ⟨Nat.lt_trans hb (Array.getElem?_eq_some_iff.1 HK.out).1, Nat.ne_of_lt hb, by simp [nilV, Value.ownBlock], by simp [nilV, Value.ownBlock], by simp [nilV, Value.ownBlock], by simp [nilV, Value.ownBlock]⟩⟩, fun e => by cases e⟩)
      have HPL := Lib.hid (lplain_pro wr.drew)
      have HD := Lib.hid ((Below.refl wr.heap.size wr).drew)
      clear hlt hO hch
      go_wp2_with fail
      go_region_law (first
        | (go_simp; go_at_call 55; refine HPL.out.mono ?_; rintro e w6 ⟨rfl, hb6⟩; have HB6 := Lib.hid (HD.out.trans (hb6.mono HD.out.size)); clear hb6)
        | (go_simp; go_at_call 54; refine (lay_pro plainK false _ (HLY.out.below HB6.out) (by simp [lyz])).mono ?_; rintro e w7 ⟨rfl, h7, hk7⟩; have H7 := Lib.hid h7; have HK7 := Lib.hid hk7; clear h7 hk7))
      all_goals
        go_wp2_with fail
        go_ret
        rw [lyz_lay] at H7
        have hMl : M < wr.heap.size := (Array.getElem?_eq_some_iff.1 HK.out).1
        exact ⟨M, rfl, H7.out, (HB.out.trans (HB6.out.mono (Nat.le_of_lt hMl))).trans (HK7.out.below fun b hb => hb)⟩
end Go.Proofs.YtjohhahfpgfjdaaGreatDoor.Tb
end
