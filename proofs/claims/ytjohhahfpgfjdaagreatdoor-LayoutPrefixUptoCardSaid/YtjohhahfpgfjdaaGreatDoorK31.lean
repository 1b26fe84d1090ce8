/- The texts that the laws of layout stand on, part 31. -/
import Derived.Test.YtjohhahfpgfjdaaGreatDoorK9
import Derived.Test.YtjohhahfpgfjdaaGreatDoorK23
import Derived.Test.YtjohhahfpgfjdaaGreatDoorK25
import Derived.Test.YtjohhahfpgfjdaaGreatDoorK28
import Derived.Test.YtjohhahfpgfjdaaGreatDoorK30
import Derived.Lib.ItoaLen
import Derived.Lib.AppendIntMem
section
namespace Go.Proofs.YtjohhahfpgfjdaaGreatDoor.Tb
open Go.RowKit Go.Maps
set_option linter.unusedVariables false
set_option linter.unusedSimpArgs false
theorem look_cells (w : World) (a b : Int) : (w.alloc (.cells #[.int .i64 a, .int .i64 b] 42)).heap[w.heap.size]? = some (.cells #[.int .i64 a, .int .i64 b] 42 (0, 0)) := heap_alloc_new w _
set_option maxRecDepth 100000 in
set_option maxHeartbeats 4000000 in
theorem styled_pro {op : Bool} {B M : Nat} {K : Nat → Prop} {wd : Int} {ch : List S6.Chg} {y : Ly} (n : Int) (w : World) (h : LyI op B M K wd ch y w) (h0 : 0 < y.lo.length) (hn : n < ch.length) :
    Calls Tryz.prog 59 #[.pointer (some ⟨M, 0, none⟩), .int .i64 n] w (fun e w' => e = .returned (.agg #[.int .i64 (styledK ch y n).att, .int .i64 (styledK ch y n).col]) ∧ Below w.heap.size w w') := by
  have hA := below_box w (.cells #[.int .i64 0, .int .i64 0] 42)
  have HTP := Lib.hid (fun W (hb : Below w.heap.size w W) => top_pro W (h.below hb) h0)
  by_cases hneg : n < 0
  · have e : styledK ch y n = topLk y := by unfold styledK; rw [if_pos hneg]
    rw [e]
    obtain ⟨k, hk⟩ : ∃ k, topLk y = k := ⟨_, rfl⟩
    rw [hk] at HTP ⊢
    have HA := Lib.hid hA
    have HX := Lib.hid (look_cells w 0 0)
    clear h h0 hn e hk hA
    go_enter Tryz.func59, Tryz.ntmps59
    go_wp2_with fail
    refine (HTP.out _ HA.out).mono ?_
    rintro e w2 ⟨rfl, hb⟩
    have hx := (hb.block w.heap.size (Array.getElem?_eq_some_iff.1 HX.out).1).trans HX.out
    have HX2 := Lib.hid hx
    have d0 : w2.cell? ⟨w.heap.size, 0, none⟩ = some (.int .i64 0) := by rw [cell_of_row _ _ _ _ _ _ hx]; rfl
    have d1 : w2.cell? ⟨w.heap.size, 1, none⟩ = some (.int .i64 0) := by rw [cell_of_row _ _ _ _ _ _ hx]; rfl
    have f0 : w2.frozen? ⟨w.heap.size, 0, none⟩ = false := frozen_of_row _ _ _ _ _ hx
    have f1 : w2.frozen? ⟨w.heap.size, 1, none⟩ = false := frozen_of_row _ _ _ _ _ hx
    have HB := Lib.hid (HA.out.trans (hb.mono HA.out.size))
    clear hb hx
    go_wp2_with fail
    have hg1 := heap_setCell_same _ w.heap.size 1 _ _ (.int .i64 k.col) (heap_setCell_same w2 w.heap.size 0 _ _ (.int .i64 k.att) HX2.out)
    refine bodyPost_ret (v := .agg #[.int .i64 k.att, .int .i64 k.col]) ?_ rfl ⟨rfl, (HB.out.setCell (p := ⟨w.heap.size, 0, none⟩) (Nat.le_refl _) _).setCell (p := ⟨w.heap.size, 1, none⟩) (Nat.le_refl _) _⟩
    exact results_cell_row rfl _ _ w.heap.size 42 #[.int .i64 k.att, .int .i64 k.col] _ _ rfl hg1 Tryz.underlying42 rfl (by kernel_rfl)
  · obtain ⟨m, rfl⟩ : ∃ m : Nat, n = m := ⟨n.toNat, by omega⟩
    have hm : m < ch.length := by omega
    have e : styledK ch y (m : Int) = S6.applyL (topLk y) ch[m] := by
      unfold styledK
      rw [if_neg hneg, Int.toNat_natCast, List.getD_eq_getElem?_getD, List.getElem?_eq_getElem hm]
      rfl
    rw [e]
    obtain ⟨vh, vl, vk, vc, ve, vf, vo, vs, cs, c, h, h2⟩ := h
    have hM := h.lt
    obtain ⟨ph, cph, rfl, hq1, hq2⟩ := h.chs.form
    obtain ⟨b, off, rfl, _, a0, a1, a2⟩ := h.chs.at_ hm
    have c3 : w.cell? ⟨M, 3, none⟩ = some (.slice (some ⟨b, off, none⟩) ch.length cph) := (h.cell 3).trans h.cel.ch
    obtain ⟨cc, hcc⟩ : ∃ cc, ch[m] = cc := ⟨_, rfl⟩
    rw [hcc] at a0 a1 a2 ⊢
    obtain ⟨N, hN⟩ : ∃ N, ch.length = N := ⟨_, rfl⟩
    rw [hN] at c3 hm hq1
    unfold maxLen at hq2
    have hbb := cellInL a0
    have HCF := Lib.hid (fun W (hb : Below w.heap.size w W) => (show W.cell? ⟨M, 3, none⟩ = some (.slice (some ⟨b, off, none⟩) N cph) ∧ W.cell? ⟨b, off + m * 3, none⟩ = some (.int .i64 cc.on) ∧ W.cell? ⟨b, off + m * 3 + 1, none⟩ = some (.int .i64 cc.off) ∧ W.cell? ⟨b, off + m * 3 + 2, none⟩ = some (.int .i64 cc.col) from
      ⟨(hb.cell (p := ⟨M, 3, none⟩) hM).trans c3, (hb.cell (p := ⟨b, off + m * 3, none⟩) hbb).trans a0, (hb.cell (p := ⟨b, off + m * 3 + 1, none⟩) hbb).trans a1, (hb.cell (p := ⟨b, off + m * 3 + 2, none⟩) hbb).trans a2⟩))
    obtain ⟨k, hk⟩ : ∃ k, topLk y = k := ⟨_, rfl⟩
    rw [hk] at HTP ⊢
    have HAP := Lib.hid (fun W => S6.apply_pro k cc W)
    unfold S6.lkVal S6.chgVal at HAP
    obtain ⟨r, hr⟩ : ∃ r, S6.applyL k cc = r := ⟨_, rfl⟩
    rw [hr] at HAP ⊢
    have HX := Lib.hid (look_cells w 0 0)
    have HA := Lib.hid hA
    have HD := Lib.hid hA.drew
    have HXD := Lib.hid (show (w.alloc (.cells #[.int .i64 0, .int .i64 0] 42)).drew.heap[w.heap.size]? = some (.cells #[.int .i64 0, .int .i64 0] 42 (0, 0)) from look_cells w 0 0)
    obtain ⟨s3, s0, s1, s2⟩ := HCF.out _ hA.drew
    have m1 : (m : Int) < N := by omega
    have mixed : Tryz.prog.follows .mixedOrders = true := by kernel_rfl
    clear h h2 h0 hn e hk hA hcc hN hr a0 a1 a2 c3 hbb hneg
    go_enter Tryz.func59, Tryz.ntmps59
    go_wp2_with fail
    go_region_law (first
      | (go_simp; go_at_call 89; refine (HTP.out _ HD.out).mono ?_; rintro e w2 ⟨rfl, hb2⟩; have HB2 := Lib.hid (HD.out.trans (hb2.mono HD.out.size)); obtain ⟨t3, t0, t1, t2⟩ := HCF.out w2 HB2.out; have HX2 := Lib.hid ((hb2.block w.heap.size (Array.getElem?_eq_some_iff.1 HXD.out).1).trans HXD.out); clear hb2)
      | (go_simp; go_at_call 90; refine (HAP.out w2).mono ?_; rintro e w3 ⟨rfl, hb3⟩; have HB3 := Lib.hid (HB2.out.trans (hb3.mono HB2.out.size)); have hx3 := (hb3.block w.heap.size (Array.getElem?_eq_some_iff.1 HX2.out).1).trans HX2.out; have HX3 := Lib.hid hx3; have d0 : w3.cell? ⟨w.heap.size, 0, none⟩ = some (.int .i64 0) := (by rw [cell_of_row _ _ _ _ _ _ hx3]; rfl); have d1 : w3.cell? ⟨w.heap.size, 1, none⟩ = some (.int .i64 0) := (by rw [cell_of_row _ _ _ _ _ _ hx3]; rfl); have f0 : w3.frozen? ⟨w.heap.size, 0, none⟩ = false := frozen_of_row _ _ _ _ _ hx3; have f1 : w3.frozen? ⟨w.heap.size, 1, none⟩ = false := frozen_of_row _ _ _ _ _ hx3; clear hb3 hx3))
    all_goals
      go_wp2_with fail
      have hg1 := heap_setCell_same _ w.heap.size 1 _ _ (.int .i64 r.col) (heap_setCell_same w3 w.heap.size 0 _ _ (.int .i64 r.att) HX3.out)
      refine bodyPost_ret (v := .agg #[.int .i64 r.att, .int .i64 r.col]) ?_ rfl ⟨rfl, (HB3.out.setCell (p := ⟨w.heap.size, 0, none⟩) (Nat.le_refl _) _).setCell (p := ⟨w.heap.size, 1, none⟩) (Nat.le_refl _) _⟩
      exact results_cell_row rfl _ _ w.heap.size 42 #[.int .i64 r.att, .int .i64 r.col] _ _ rfl hg1 Tryz.underlying42 rfl (by kernel_rfl)
end Go.Proofs.YtjohhahfpgfjdaaGreatDoor.Tb
end
section
namespace Go.Proofs.YtjohhahfpgfjdaaGreatDoor.Tb
open Go.RowKit Go.Maps
set_option linter.unusedVariables false
set_option linter.unusedSimpArgs false
theorem infoTg : (Tryz.prog.info? 39).map (fun i => (i.zero, i.size, i.bytes)) = some (some (.agg #[.int .i64 0, .int .i64 0]), 2, 16) := by kernel_rfl
theorem colRow_one (x : Int × Int) : ∀ u ∈ colRow x, u.oneCell' = true := by
  intro u hu
  simp only [colRow, List.mem_cons, List.not_mem_nil, or_false] at hu
  rcases hu with rfl | rfl <;> rfl
theorem tgt_cells (w : World) (a b : Int) : (w.alloc (.cells #[.int .i64 a, .int .i64 b] 39)).cell? ⟨w.heap.size, 0, none⟩ = some (.int .i64 a) ∧ (w.alloc (.cells #[.int .i64 a, .int .i64 b] 39)).cell? ⟨w.heap.size, 1, none⟩ = some (.int .i64 b) := by
  constructor <;> rw [cell_of_row _ _ _ _ _ _ (heap_alloc_new w _)] <;> rfl
set_option maxRecDepth 100000 in
set_option maxHeartbeats 4000000 in
theorem beginLink_pro {B M : Nat} {K : Nat → Prop} {wd : Int} {ch : List S6.Chg} {y : Ly} (kd nn : Int) (w : World) (h : LyI true B M K wd ch y w) (h0 : 0 < y.lo.length) (h18 : y.lo.length < 18) (hn : y.lk.length ≤ 1000000) :
    Calls Tryz.prog 60 #[.pointer (some ⟨M, 0, none⟩), .agg #[.int .i64 kd, .int .i64 nn]] w (LyPost true B M K wd ch (linkY y kd nn) (.tuple #[]) w) := by
  obtain ⟨i0, hi0, hz0, hz1, hz2⟩ := info_parts infoTg
  obtain ⟨vh, vl, vk, vc, ve, vf, vo, vs, cs, c, h, h2⟩ := h
  have HI := Lib.hid h2
  obtain ⟨pk, ck, rfl⟩ := lenL h.lk
  obtain ⟨n, hnn⟩ : ∃ n, y.lk.length = n := ⟨_, rfl⟩
  have HN := Lib.hid hnn
  rw [hnn] at h hn
  have hA := below_box w (.cells #[.int .i64 kd, .int .i64 nn] 39)
  have hM := h.lt
  have HH := Lib.hid h
  have HA := Lib.hid hA
  have HL1 := Lib.hid (h.below hA)
  obtain ⟨W1, hW1⟩ : ∃ W1, w.alloc (.cells #[.int .i64 kd, .int .i64 nn] 39) = W1 := ⟨_, rfl⟩
  obtain ⟨tb, htb⟩ : ∃ tb, w.heap.size = tb := ⟨_, rfl⟩
  have ht := tgt_cells w kd nn
  rw [hW1] at HL1 HA ht
  rw [htb] at ht
  obtain ⟨d0, d1⟩ := ht
  have HLD := Lib.hid (HL1.out.drew.below (below_box W1.drew (.cells #[.int .i64 kd, .int .i64 nn] 39)))
  have c6 : W1.cell? ⟨M, 6, none⟩ = some (.slice pk n ck) := (HL1.out.cell 6).trans HL1.out.cel.lk
  have x6 : (W1.alloc (.cells #[.int .i64 kd, .int .i64 nn] 39)).cell? ⟨M, 6, none⟩ = some (.slice pk n ck) := ((HL1.out.below (below_box W1 _)).cell 6).trans HL1.out.cel.lk
  have q0 : (W1.alloc (.cells #[.int .i64 kd, .int .i64 nn] 39)).cell? ⟨tb, 0, none⟩ = some (.int .i64 kd) := ((below_box W1 _).cell (p := ⟨tb, 0, none⟩) (cellInL d0)).trans d0
  have q1 : (W1.alloc (.cells #[.int .i64 kd, .int .i64 nn] 39)).cell? ⟨tb, 1, none⟩ = some (.int .i64 nn) := ((below_box W1 _).cell (p := ⟨tb, 1, none⟩) (cellInL d1)).trans d1
  have L1 := Lib.hid (show n + 1 ≤ maxLen by unfold maxLen; omega)
  have L2 := Lib.hid (show (n + 1) * 16 ≤ 140737488355328 by omega)
  have L3 := Lib.hid (show B ≤ (W1.drew.alloc (.cells #[.int .i64 kd, .int .i64 nn] 39)).heap.size by have := HLD.out.base; have := HLD.out.lt; omega)
  have H0 := Lib.hid h0
  have H18 := Lib.hid h18
  have HKW := Lib.hid (fun b hb => (h.apart b hb).1)
  have mixed : Tryz.prog.follows .mixedOrders = true := by kernel_rfl
  clear h h2 hnn hA h0 h18
  go_enter Tryz.func60, Tryz.ntmps60
  go_wp2_with fail
  try simp only [hW1, htb]
  go_region_law (refine step_append_lies _ rfl (.tmp 8) (.tmp 10) 27 rfl B 39 i0 _ 2 16 Tryz.underlying27 hi0 hz0 hz1 hz2 rfl (by decide) (.slice pk n ck) n (rowsC y.lk) (by simp [Act.eval]) (by have h9 := HLD.out.lk; rw [HN.out] at h9; exact h9) ⟨W1.heap.size, 0, none⟩ 1 1 (colRow (kd, nn)) (by simp [Act.eval]) rfl (cells_newL _ _ _) (colRow_one _) (by decide) L1.out L2.out L3.out _ rfl ?_; intro g' cap w3 hown' hgrow hat _; have HW3 := Lib.hid hown'; have HGR := Lib.hid hgrow; have HAT := Lib.hid hat; have hgk := (hgrow.block M HLD.out.lt (fun e => HLD.out.nM.2.1 e.symm)).trans HLD.out.blk; have r6 : w3.cell? ⟨M, 6, none⟩ = some (.slice pk n ck) := (by rw [cell_of_row _ _ _ _ _ _ hgk]; exact HLD.out.cel.lk); have f6 : w3.frozen? ⟨M, 6, none⟩ = false := frozen_of_row w3 M 6 _ _ hgk; have HGK := Lib.hid hgk; clear hown' hgrow hat hgk)
  all_goals
    have hp := HLD.out.pushLink (x := (kd, nn)) (y' := { y with lk := y.lk ++ [(kd, nn)] }) HGR.out (by rw [HN.out]; exact HW3.out) (by exact HAT.out) (W4 := w3.setCell ⟨M, 6, none⟩ (.slice (some ⟨g', 0, none⟩) (y.lk.length + 1) cap)) (by simp [World.setCell]) (heap_setCell_same w3 M 6 _ _ _ HGK.out) (fun b hb => Below.heap_setCell _ _ _ _ hb) rfl rfl rfl rfl rfl (HLD.out.cel.setLk _ _)
    rw [HN.out] at hp
    have HK4 := Lib.hid (((((Kp.of HA.out HKW.out).drew).alloc (fun b hb => Nat.lt_of_lt_of_le (HKW.out b hb) HA.out.size) (.cells #[.int .i64 kd, .int .i64 nn] 39)).grown HGR.out (fun b hb => ⟨(HLD.out.apart b hb).1, (HLD.out.apart b hb).2.2.2.1⟩)).set 6 HH.out.notK (.slice (some ⟨g', 0, none⟩) (n + 1) cap))
    obtain ⟨W4, hW4⟩ : ∃ W4, w3.setCell ⟨M, 6, none⟩ (.slice (some ⟨g', 0, none⟩) (n + 1) cap) = W4 := ⟨_, rfl⟩
    rw [hW4] at hp HK4
    try simp only [hW4]
    have HP := Lib.hid hp.1
    have s6 : W4.cell? ⟨M, 6, none⟩ = some (.slice (some ⟨g', 0, none⟩) (n + 1) cap) := (hp.1.cell 6).trans hp.1.cel.lk
    have s7 : W4.cell? ⟨M, 7, none⟩ = some (.int .i64 y.link) := (hp.1.cell 7).trans hp.1.cel.ln
    have f7 := hp.1.free 7
    clear hp hW4 c6 x6 q0 q1 d0 d1 r6 f6
    go_wp2_with fail
    have E := HP.out.ed.set 7 (.int .i64 ((n + 1 : Nat) : Int))
    have h5 := HP.out.edit (y' := { y with lk := y.lk ++ [(kd, nn)], link := ((n + 1 : Nat) : Int) }) E (HP.out.cel.setLn _) rfl rfl rfl rfl rfl
    have HK5 := Lib.hid (HK4.out.trans (E.kp HP.out.notK))
    rw [Int.natCast_succ] at h5 HK5
    obtain ⟨W5, hW5⟩ : ∃ W5, W4.setCell ⟨M, 7, none⟩ (.int .i64 ((n : Int) + 1)) = W5 := ⟨_, rfl⟩
    rw [hW5] at h5 HK5
    try simp only [hW5]
    have H5 := Lib.hid (show LyI true B M K wd ch { y with lk := y.lk ++ [(kd, nn)], link := (n : Int) + 1 } W5 from ⟨_, _, _, _, _, _, _, _, _, _, h5, fun _ => HI.out trivial⟩)
    clear h5 hW5 E s6 s7 f7
    obtain ⟨k, hk⟩ : ∃ k, topLk y = k := ⟨_, rfl⟩
    have HKy := Lib.hid hk
    have HTP := Lib.hid (top_pro W5.drew H5.out.drew H0.out)
    rw [show topLk { y with lk := y.lk ++ [(kd, nn)], link := (n : Int) + 1 } = topLk y from rfl, hk] at HTP
    have HD := Lib.hid ((Below.refl W5.heap.size W5).drew)
    clear hk
    go_region_law (first
      | (go_simp; go_at_call 89; refine HTP.out.mono ?_; rintro e w6 ⟨rfl, hb6⟩; have HB6 := Lib.hid (HD.out.trans (hb6.mono HD.out.size)); clear hb6)
      | (go_simp; go_at_call 54; refine (lay_pro k true _ (H5.out.below HB6.out) H18.out).mono ?_; rintro e w7 ⟨rfl, h7, hk7⟩; have H7 := Lib.hid h7; have HK7 := Lib.hid hk7; clear h7 hk7))
    all_goals
      go_wp2_with fail
      first | go_end0 | refine bodyPost_ret (results_none rfl _ _ _) rfl ?_
      have e7 : linkY y kd nn = layY { y with lk := y.lk ++ [(kd, nn)], link := (n : Int) + 1 } k true := by unfold linkY; rw [HKy.out, HN.out, Int.natCast_succ]
      rw [e7]
      exact ⟨rfl, H7.out, (HK5.out.trans (Kp.of HB6.out (fun b hb => H5.out.lt b hb))).trans HK7.out⟩
set_option maxRecDepth 100000 in
set_option maxHeartbeats 1000000 in
theorem close_pro {B M : Nat} {op : Bool} {K : Nat → Prop} {wd : Int} {ch : List S6.Chg} {y : Ly} (w : World) (h : LyI op B M K wd ch y w) (h0 : 0 < y.lo.length) :
    Calls Tryz.prog 61 #[.pointer (some ⟨M, 0, none⟩)] w (LyPost op B M K wd ch (closeY y) (.tuple #[]) w) := by
  have HT := Lib.hid (takeOff_pro w h h0)
  obtain ⟨b, hb⟩ : ∃ b, (y.lo.getLast?.map (·.2)).getD false = b := ⟨_, rfl⟩
  have hY : closeY y = if b then { offY y with link := 0 } else offY y := by unfold closeY; rw [hb]
  rw [hb] at HT
  rw [hY]
  clear h h0 hb hY
  cases b with
  | false =>
    rw [if_neg (by decide)]
    go_enter Tryz.func61, Tryz.ntmps61
    go_wp2_with fail
    refine HT.out.mono ?_
    rintro e w1 ⟨rfl, h1, hk1⟩
    have H1 := Lib.hid h1
    have HK1 := Lib.hid hk1
    clear h1 hk1
    go_wp2_with fail
    first | go_end0 | refine bodyPost_ret (results_none rfl _ _ _) rfl ?_
    exact ⟨rfl, H1.out, HK1.out⟩
  | true =>
    rw [if_pos rfl]
    go_enter Tryz.func61, Tryz.ntmps61
    go_wp2_with fail
    refine HT.out.mono ?_
    rintro e w1 ⟨rfl, h1, hk1⟩
    obtain ⟨vh, vl, vk, vc, ve, vf, vo, vs, cs, c, h, h2⟩ := h1
    have c7 : w1.cell? ⟨M, 7, none⟩ = some (.int .i64 (offY y).link) := (h.cell 7).trans h.cel.ln
    have f7 := h.free 7
    have HH := Lib.hid h
    have HI := Lib.hid h2
    have HK1 := Lib.hid hk1
    clear h h2 hk1
    go_wp2_with fail
    first | go_end0 | refine bodyPost_ret (results_none rfl _ _ _) rfl ?_
    have E := HH.out.ed.set 7 (.int .i64 0)
    exact ⟨rfl, ⟨_, _, _, _, _, _, _, _, _, _, HH.out.edit E (HH.out.cel.setLn 0) rfl rfl rfl rfl rfl, HI.out⟩, HK1.out.trans (E.kp HH.out.notK)⟩
end Go.Proofs.YtjohhahfpgfjdaaGreatDoor.Tb
end
section
namespace Go.Proofs.YtjohhahfpgfjdaaGreatDoor.Tb
open Go.RowKit Go.Maps
set_option linter.unusedVariables false
set_option linter.unusedSimpArgs false
section
variable {op : Bool} {B M : Nat} {K K' : Nat → Prop} {wd : Int} {ch : List S6.Chg} {y y' : Ly} {vh vl vk vc ve vf vo vc' ve' vf' vo' : Value} {vs cs cs' : List Value} {c c' : Array Value} {W W' : World}
theorem TlB.im (b : Nat) (he : ve' = ve ∨ ve' = nilV) (ho : vo' = vo ∨ vo' = nilV) (h : TlB B M vl vk ve vo b) : TlB B M vl vk ve' vo' b := by
  refine ⟨h.1, h.2.1, h.2.2.1, h.2.2.2.1, ?_, ?_⟩
  · rcases he with rfl | rfl
    · exact h.2.2.2.2.1
    · simp [nilV, Value.ownBlock]
  · rcases ho with rfl | rfl
    · exact h.2.2.2.2.2
    · simp [nilV, Value.ownBlock]
/-- The block is another, and lists of it may have been given up. -/
theorem LyM.change (h : LyM B M K wd ch y vh vl vk vc ve vf vo vs cs c W) (e : Ed M c' W W') (hc : LyC c' wd y' vh vl vk vc' ve' vf') (e1 : y'.ls = y.ls) (e2 : y'.lk = y.lk)
    (hco : RdC (TlB B M vl vk ve' vo') W' vc' y'.co) (hve : (ve' = ve ∧ cs' = cs ∧ y'.ce = y.ce) ∨ (ve' = nilV ∧ cs' = [] ∧ y'.ce = [])) (hvo : (vo' = vo ∧ y'.fl = y.fl) ∨ (vo' = nilV ∧ y'.fl = [])) : LyM B M K wd ch y' vh vl vk vc' ve' vf' vo' vs cs' c' W' := by
  have n := h.nM
  have he : ve' = ve ∨ ve' = nilV := hve.imp (·.1) (·.1)
  have ho : vo' = vo ∨ vo' = nilV := hvo.imp (·.1) (·.1)
  have hk := e.oth
  have mv : ∀ b, TlB B M vl vk ve vo b → b < W.heap.size → W'.heap[b]? = W.heap[b]? ∧ TlB B M vl vk ve' vo' b := fun b h1 _ => ⟨hk b h1.2.1, TlB.im b he ho h1⟩
  refine ⟨h.base, e.blk, hc, h.chs.move mv, ?_, ?_, hco, ?_, ?_, fun b hb => ?_, fun b hb => ?_⟩
  · rw [e1]; exact ⟨h.ls.num, own_stays h.ls.row fun b e => hk b (fun e' => n.1 (by rw [← e']; exact e)), fun j hj => (h.ls.line j hj).move mv⟩
  · rw [e2]; exact own_stays h.lk fun b e => hk b (fun e' => n.2.1 (by rw [← e']; exact e))
  · rcases hve with ⟨rfl, rfl, e4⟩ | ⟨rfl, rfl, e4⟩
    · rw [e4]; exact ⟨h.ce.num, own_stays h.ce.row fun b e => hk b (fun e' => n.2.2.1 (by rw [← e']; exact e)), fun j hj => (h.ce.line j hj).move mv⟩
    · rw [e4]; exact OwnL.nil _ _ _
  · rcases hvo with ⟨rfl, e5⟩ | ⟨rfl, e5⟩
    · rw [e5]; exact own_stays h.fl fun b e => hk b (fun e' => n.2.2.2 (by rw [← e']; exact e))
    · rw [e5]; exact World.ownsRow_nil _ _ _ _
  · rcases he with rfl | rfl
    · exact h.lc b hb
    · simp [nilV, Value.ownBlock]
  · have a := h.apart b hb
    have a' := TlB.im (B := 0) (M := M) (vl := vl) (vk := vk) b he ho ⟨Nat.zero_le _, a.2.1, a.2.2.1, a.2.2.2.1, a.2.2.2.2.1, a.2.2.2.2.2⟩
    exact ⟨by rw [e.size]; exact a.1, a.2.1, a.2.2.1, a.2.2.2.1, a'.2.2.2.2.1, a'.2.2.2.2.2⟩
theorem LyM.coMove (h : LyM B M K wd ch y vh vl vk vc ve vf vo vs cs c W) (e : Ed M c' W W') (he : ve' = ve ∨ ve' = nilV) (ho : vo' = vo ∨ vo' = nilV) : RdC (TlB B M vl vk ve' vo') W' vc y.co :=
  h.co.move fun b h1 _ => ⟨e.oth b h1.2.1, TlB.im b he ho h1⟩
end
theorem styledK_fl (ch : List S6.Chg) (y : Ly) (l : List Gl) (n : Int) : styledK ch { y with fl := l } n = styledK ch y n := rfl
theorem begin_eq (ch : List S6.Chg) (y y1 : Ly) (n : Int) (h : (if y.ah = 9 ∧ y.co.length = 0 then tellY y [] else y) = y1) : beginY ch y n = layY { y1 with fl := [] } (styledK ch y1 n) false := by unfold beginY; rw [h]
theorem tellY_lo (y : Ly) (l : List Gl) : (tellY y l).lo = y.lo := by unfold tellY; split <;> rfl
set_option maxRecDepth 100000 in
set_option maxHeartbeats 4000000 in
theorem beginPara_pro {op : Bool} {B M : Nat} {K : Nat → Prop} {wd : Int} {ch : List S6.Chg} {y : Ly} (n : Int) (w : World) (h : LyI op B M K wd ch y w) (h0 : 0 < y.lo.length) (h18 : y.lo.length < 18) (hls : y.ls.length ≤ 2000) (hn : n < ch.length) :
    Calls Tryz.prog 56 #[.pointer (some ⟨M, 0, none⟩), .int .i64 n] w (LyPost true B M K wd ch (beginY ch y n) (.tuple #[]) w) := by
  have HIT := Lib.hid (inTable_pro w h)
  have HTE := Lib.hid (tell_pro (P := fun _ => True) [] (.slice none 0 0) w h ⟨none, 0, rfl, Nat.le_refl _, Nat.zero_le _, fun j hj => absurd hj (by simp)⟩ (by simp [flat]) hls)
  have hah : w.cell? ⟨M, 92, none⟩ = some (.int .i64 y.ah) := by
    obtain ⟨vh, vl, vk, vc, ve, vf, vo, vs, cs, c, h, h2⟩ := h
    exact (h.cell 92).trans h.cel.ah
  rw [show flat [] = ([] : List Gl) from rfl] at HTE
  have HH := Lib.hid h
  have H0 := Lib.hid h0
  have H18 := Lib.hid h18
  have HN := Lib.hid hn
  have HE := Lib.hid (fun y1 => begin_eq ch y y1 n)
  obtain ⟨a, ha⟩ : ∃ a, y.ah = a := ⟨_, rfl⟩
  have HAh := Lib.hid ha
  rw [ha] at hah
  have mixed : Tryz.prog.follows .mixedOrders = true := by kernel_rfl
  clear h h0 h18 hn ha hls
  by_cases h9 : a = 9
  · have t9 : (a == 9) = true := by simpa using h9
    by_cases hc : y.co.length = 0
    · rw [decide_eq_false (show ¬ 0 < y.co.length by omega)] at HIT
      have HEQ := Lib.hid (HE.out (tellY y []) (by rw [if_pos ⟨HAh.out.trans h9, hc⟩]))
      clear hc h9
      go_enter Tryz.func56, Tryz.ntmps56
      go_wp2_with fail
      refine HIT.out.mono ?_
      rintro e w0 ⟨rfl, rfl⟩
      go_wp2_with fail
      refine HTE.out.mono ?_
      rintro e w1 ⟨rfl, h1, hk1⟩
      have HK1 := Lib.hid hk1
      obtain ⟨y1, hy1⟩ : ∃ y1, tellY y [] = y1 := ⟨_, rfl⟩
      have H0y := Lib.hid (show 0 < y1.lo.length by rw [← hy1, tellY_lo]; exact H0.out)
      have H18y := Lib.hid (show y1.lo.length < 18 by rw [← hy1, tellY_lo]; exact H18.out)
      rw [hy1] at h1 HEQ
      clear hk1 hy1
      obtain ⟨vh, vl, vk, vc, ve, vf, vo, vs, cs, c, h, h2⟩ := h1
      have f91 := h.free 91
      obtain ⟨u91, q91⟩ := h.old (j := 91) (by omega)
      have E := h.ed.set 91 (.slice none 0 0)
      have h5 := h.change (y' := { y1 with fl := [] }) (ve' := ve) (vo' := nilV) (cs' := cs) E (h.cel.setFl (.slice none 0 0) []) rfl rfl (h.coMove E (.inl rfl) (.inr rfl)) (.inl ⟨rfl, rfl, rfl⟩) (.inr ⟨rfl, rfl⟩)
      have HK5 := Lib.hid (HK1.out.trans (E.kp h.notK))
      have H5 := Lib.hid (show LyI true B M K wd ch { y1 with fl := [] } (w1.setCell ⟨M, 91, none⟩ (.slice none 0 0)) from ⟨_, _, _, _, _, _, _, _, _, _, h5, fun _ => rfl⟩)
      clear h h2 h5 E
      go_wp2_with fail
      obtain ⟨W5, hW5⟩ : ∃ W5, w1.setCell ⟨M, 91, none⟩ (.slice none 0 0) = W5 := ⟨_, rfl⟩
      rw [hW5] at HK5 H5
      try simp only [hW5]
      clear hW5 f91 q91
      have HST := Lib.hid (styled_pro n W5.drew H5.out.drew H0y.out HN.out)
      rw [styledK_fl] at HST
      obtain ⟨k, hk⟩ : ∃ k, styledK ch y1 n = k := ⟨_, rfl⟩
      have HKk := Lib.hid hk
      rw [hk] at HST
      have HD := Lib.hid ((Below.refl W5.heap.size W5).drew)
      clear hk
      go_region_law (first
        | (go_simp; go_at_call 59; refine HST.out.mono ?_; rintro e w6 ⟨rfl, hb6⟩; have HB6 := Lib.hid (HD.out.trans (hb6.mono HD.out.size)); clear hb6)
        | (go_simp; go_at_call 54; refine (lay_pro k false _ (H5.out.below HB6.out) H18y.out).mono ?_; rintro e w7 ⟨rfl, h7, hk7⟩; have H7 := Lib.hid h7; have HK7 := Lib.hid hk7; clear h7 hk7))
      all_goals
        go_wp2_with fail
        first | go_end0 | refine bodyPost_ret (results_none rfl _ _ _) rfl ?_
        rw [HEQ.out, HKk.out]
        exact ⟨rfl, H7.out, (HK5.out.trans (Kp.of HB6.out (fun b hb => H5.out.lt b hb))).trans HK7.out⟩
    · rw [decide_eq_true (show 0 < y.co.length by omega)] at HIT
      have HEQ := Lib.hid (HE.out y (by rw [if_neg (fun e => hc e.2)]))
      clear hc h9
      go_enter Tryz.func56, Tryz.ntmps56
      go_wp2_with fail
      refine HIT.out.mono ?_
      rintro e w0 ⟨rfl, rfl⟩
      have HK1 := Lib.hid (Kp.refl K w)
      have h1 := HH.out
      have H0y := Lib.hid (show 0 < y.lo.length from H0.out)
      have H18y := Lib.hid (show y.lo.length < 18 from H18.out)
      obtain ⟨vh, vl, vk, vc, ve, vf, vo, vs, cs, c, h, h2⟩ := h1
      have f91 := h.free 91
      obtain ⟨u91, q91⟩ := h.old (j := 91) (by omega)
      have E := h.ed.set 91 (.slice none 0 0)
      have h5 := h.change (y' := { y with fl := [] }) (ve' := ve) (vo' := nilV) (cs' := cs) E (h.cel.setFl (.slice none 0 0) []) rfl rfl (h.coMove E (.inl rfl) (.inr rfl)) (.inl ⟨rfl, rfl, rfl⟩) (.inr ⟨rfl, rfl⟩)
      have HK5 := Lib.hid (HK1.out.trans (E.kp h.notK))
      have H5 := Lib.hid (show LyI true B M K wd ch { y with fl := [] } (w.setCell ⟨M, 91, none⟩ (.slice none 0 0)) from ⟨_, _, _, _, _, _, _, _, _, _, h5, fun _ => rfl⟩)
      clear h h2 h5 E
      go_wp2_with fail
      obtain ⟨W5, hW5⟩ : ∃ W5, w.setCell ⟨M, 91, none⟩ (.slice none 0 0) = W5 := ⟨_, rfl⟩
      rw [hW5] at HK5 H5
      try simp only [hW5]
      clear hW5 f91 q91
      have HST := Lib.hid (styled_pro n W5.drew H5.out.drew H0y.out HN.out)
      rw [styledK_fl] at HST
      obtain ⟨k, hk⟩ : ∃ k, styledK ch y n = k := ⟨_, rfl⟩
      have HKk := Lib.hid hk
      rw [hk] at HST
      have HD := Lib.hid ((Below.refl W5.heap.size W5).drew)
      clear hk
      go_region_law (first
        | (go_simp; go_at_call 59; refine HST.out.mono ?_; rintro e w6 ⟨rfl, hb6⟩; have HB6 := Lib.hid (HD.out.trans (hb6.mono HD.out.size)); clear hb6)
        | (go_simp; go_at_call 54; refine (lay_pro k false _ (H5.out.below HB6.out) H18y.out).mono ?_; rintro e w7 ⟨rfl, h7, hk7⟩; have H7 := Lib.hid h7; have HK7 := Lib.hid hk7; clear h7 hk7))
      all_goals
        go_wp2_with fail
        first | go_end0 | refine bodyPost_ret (results_none rfl _ _ _) rfl ?_
        rw [HEQ.out, HKk.out]
        exact ⟨rfl, H7.out, (HK5.out.trans (Kp.of HB6.out (fun b hb => H5.out.lt b hb))).trans HK7.out⟩
  · have t9 : (a == 9) = false := by simpa using h9
    have HEQ := Lib.hid (HE.out y (by rw [if_neg (fun e => h9 (HAh.out.symm.trans e.1))]))
    clear h9
    have HK1 := Lib.hid (Kp.refl K w)
    have h1 := HH.out
    have H0y := Lib.hid (show 0 < y.lo.length from H0.out)
    have H18y := Lib.hid (show y.lo.length < 18 from H18.out)
    obtain ⟨vh, vl, vk, vc, ve, vf, vo, vs, cs, c, h, h2⟩ := h1
    have f91 := h.free 91
    obtain ⟨u91, q91⟩ := h.old (j := 91) (by omega)
    have E := h.ed.set 91 (.slice none 0 0)
    have h5 := h.change (y' := { y with fl := [] }) (ve' := ve) (vo' := nilV) (cs' := cs) E (h.cel.setFl (.slice none 0 0) []) rfl rfl (h.coMove E (.inl rfl) (.inr rfl)) (.inl ⟨rfl, rfl, rfl⟩) (.inr ⟨rfl, rfl⟩)
    have HK5 := Lib.hid (HK1.out.trans (E.kp h.notK))
    have H5 := Lib.hid (show LyI true B M K wd ch { y with fl := [] } (w.setCell ⟨M, 91, none⟩ (.slice none 0 0)) from ⟨_, _, _, _, _, _, _, _, _, _, h5, fun _ => rfl⟩)
    clear h h2 h5 E
    go_enter Tryz.func56, Tryz.ntmps56
    go_wp2_with fail
    obtain ⟨W5, hW5⟩ : ∃ W5, w.setCell ⟨M, 91, none⟩ (.slice none 0 0) = W5 := ⟨_, rfl⟩
    rw [hW5] at HK5 H5
    try simp only [hW5]
    clear hW5 f91 q91
    have HST := Lib.hid (styled_pro n W5.drew H5.out.drew H0y.out HN.out)
    rw [styledK_fl] at HST
    obtain ⟨k, hk⟩ : ∃ k, styledK ch y n = k := ⟨_, rfl⟩
    have HKk := Lib.hid hk
    rw [hk] at HST
    have HD := Lib.hid ((Below.refl W5.heap.size W5).drew)
    clear hk
    go_region_law (first
      | (go_simp; go_at_call 59; refine HST.out.mono ?_; rintro e w6 ⟨rfl, hb6⟩; have HB6 := Lib.hid (HD.out.trans (hb6.mono HD.out.size)); clear hb6)
      | (go_simp; go_at_call 54; refine (lay_pro k false _ (H5.out.below HB6.out) H18y.out).mono ?_; rintro e w7 ⟨rfl, h7, hk7⟩; have H7 := Lib.hid h7; have HK7 := Lib.hid hk7; clear h7 hk7))
    all_goals
      go_wp2_with fail
      first | go_end0 | refine bodyPost_ret (results_none rfl _ _ _) rfl ?_
      rw [HEQ.out, HKk.out]
      exact ⟨rfl, H7.out, (HK5.out.trans (Kp.of HB6.out (fun b hb => H5.out.lt b hb))).trans HK7.out⟩
end Go.Proofs.YtjohhahfpgfjdaaGreatDoor.Tb
end
section
namespace Go.Proofs.YtjohhahfpgfjdaaGreatDoor.Tb
open Go.RowKit Go.Maps
set_option linter.unusedVariables false
set_option linter.unusedSimpArgs false
theorem slice_from (pm : Option Addr) (m cm L : Nat) (h : L ≤ m) (W : World) : (Instr.slice 34 (.slice pm m cm) (some (.int .i64 (L : Int))) none none).run Tryz.prog W = .ok (sliced pm L m cm 5) W := by
  have h9 := run_slice_l (P := Tryz.prog) (w := W) 34 pm m cm (by kernel_rfl) .i64 (L : Int) (by omega) (by omega)
  rw [h9, Int.toNat_natCast]
  simp only [show Tryz.prog.elem 34 = 44 by kernel_rfl, Tryz.sizeOf44, Result.andThen_ok]
/-- What is left of a list behind its first ones, whatever room it has. -/
theorem drop_own {B : Nat} {P : Nat → Prop} {w0 w : World} {pm : Option Addr} {m cm : Nat} {l : List Gl} (ho : w0.ownsRow B 44 5 (.slice pm m cm) m (rowsG l)) (hm : m = l.length) (hr : RdG P w (.slice pm m cm) l) (L : Nat) (h : L ≤ m) :
    ∃ q j cc, sliced pm L m cm 5 = .slice q j cc ∧ RdG P w (.slice q j cc) (l.drop L) := by
  rcases ho.2 with ⟨e, h0⟩ | ⟨g, cap, cur, e, hb, hg, h1, h2, h3, h4⟩
  · cases e
    obtain rfl : L = 0 := by omega
    have : l = [] := List.eq_nil_of_length_eq_zero (by omega)
    subst this
    exact ⟨_, _, _, rfl, RdG.nil _ _ (Nat.zero_le _) _⟩
  · cases e
    by_cases hc : cm = L
    · refine ⟨some ⟨g, 0, none⟩, 0, 0, ?_, ?_⟩
      · have : m = L := by omega
        subst this; subst hc
        simp [sliced]
      · rw [List.drop_eq_nil_of_le (by omega)]
        exact RdG.nil _ _ (by unfold maxLen; omega) _
    · refine ⟨_, _, _, ?_, hr.drop L h⟩
      unfold sliced
      rw [if_neg hc]
      simp [Addr.add]
      intro e
      exact e.symm
/-- What holds between two operations: the marker stands within the margin; there are not too many lines. -/
structure MkOk (y : Ly) : Prop where
  pl0 : 0 ≤ y.pl
  mrg : y.pl + y.sg.size ≤ y.mg
  mg : y.mg ≤ 200
  ls : y.ls.length ≤ 2000
theorem MkOk.tell {y : Ly} (h : MkOk y) (l : List Gl) : MkOk (tellY y l) := by
  unfold tellY
  split
  · exact ⟨h.pl0, h.mrg, h.mg, h.ls⟩
  · refine ⟨h.pl0, h.mrg, h.mg, ?_⟩
    have := h.ls
    simp
    omega
theorem MkOk.free {y : Ly} (h : MkOk y) : MkOk (freeY y) := by
  have h1 := h.pl0
  have h2 := h.mrg
  exact ⟨Int.le_refl _, by simp [freeY]; omega, h.mg, h.ls⟩
theorem MkOk.settle {y : Ly} (h : MkOk y) : MkOk (settleY y) := by
  unfold settleY
  split
  · exact h
  · exact h.free.tell _
theorem MkOk.line {y : Ly} (h : MkOk y) (l : List Gl) : MkOk (lineY y l) := h.free.tell _
theorem tellY_mg (y : Ly) (l : List Gl) : (tellY y l).mg = y.mg := by unfold tellY; split <;> rfl
theorem settleY_mg (y : Ly) : (settleY y).mg = y.mg := by unfold settleY; split; rfl; exact tellY_mg _ _
theorem lineY_mg (y : Ly) (l : List Gl) : (lineY y l).mg = y.mg := tellY_mg _ _
def lnK (y : Ly) (lines : List (List Gl)) (k : Nat) : Ly := (lines.take k).foldl lineY y
theorem lnK_succ (y : Ly) (lines : List (List Gl)) {k : Nat} (h : k < lines.length) : lnK y lines (k + 1) = lineY (lnK y lines k) lines[k] := by
  unfold lnK
  rw [List.take_succ_eq_append_getElem h, List.foldl_append]
  rfl
theorem lnK_ok {y : Ly} (h : MkOk y) (lines : List (List Gl)) (k : Nat) : MkOk (lnK y lines k) ∧ (lnK y lines k).mg = y.mg := by
  unfold lnK
  generalize lines.take k = l
  induction l generalizing y with
  | nil => exact ⟨h, rfl⟩
  | cons a l ih =>
    have := ih (h.line a)
    rw [List.foldl_cons]
    exact ⟨this.1, this.2.trans (lineY_mg _ _)⟩
theorem fill_small {wide : Int} {l r : List Gl} (h : r ∈ fillL wide l) : r.length ≤ 200 := by
  unfold fillL at h
  split at h
  · rename_i h0
    have h1 := fill_lines h0 r h
    have h2 := line_len h1
    have h3 := (fillE_ok h0).1
    omega
  · simp at h
theorem lead_le {y : Ly} (h : MkOk y) : (leadY y).length ≤ y.mg.toNat := by
  have h1 := h.pl0
  have h2 := h.mrg
  rw [lead_len]
  omega
end Go.Proofs.YtjohhahfpgfjdaaGreatDoor.Tb
end
section
namespace Go.Proofs.YtjohhahfpgfjdaaGreatDoor.Tb
open Go.RowKit Go.Maps
set_option linter.unusedVariables false
set_option linter.unusedSimpArgs false
theorem Ed.drewE {M : Nat} {c' : Array Value} {W W' : World} (h : Ed M c' W W') : Ed M c' W W'.drew := ⟨h.blk, h.oth, h.size, h.os, h.tape, h.output⟩
theorem tellY_li (y : Ly) (l : List Gl) : (tellY y l).li = y.li := by unfold tellY; split <;> rfl
theorem settleY_li (y : Ly) : (settleY y).li = y.li := by unfold settleY; split; rfl; exact tellY_li _ _
set_option maxRecDepth 100000 in
set_option maxHeartbeats 2000000 in
theorem beginList_pro {op : Bool} {B M : Nat} {K : Nat → Prop} {wd : Int} {ch : List S6.Chg} {y : Ly} (kd : Int) (w : World) (h : LyI op B M K wd ch y w) (hok : MkOk y) (h8 : y.li.length < 8) :
    Calls Tryz.prog 63 #[.pointer (some ⟨M, 0, none⟩), .int .i64 kd] w (LyPost op B M K wd ch (listY y kd) (.tuple #[]) w) := by
  have HTM := Lib.hid (tellMarker_pro w h ⟨hok.pl0, by have := hok.mrg; have := hok.mg; omega⟩ (by have := hok.mrg; have := hok.pl0; have := hok.mg; omega) hok.ls)
  have hY : listY y kd = { settleY y with li := (settleY y).li ++ [⟨decide (kd ≠ 0), (settleY y).mg, 0⟩] } := rfl
  rw [hY]
  rw [← settleY_li] at h8
  obtain ⟨y1, hy1⟩ : ∃ y1, settleY y = y1 := ⟨_, rfl⟩
  rw [hy1] at HTM h8 ⊢
  obtain ⟨b, hb⟩ : ∃ b, decide (kd ≠ 0) = b := ⟨_, rfl⟩
  have tb : (kd != 0) = b := by
    rw [← hb]
    by_cases h : kd = 0
    · simp [h]
    · simp [h]
  rw [hb]
  have H8 := Lib.hid h8
  have mixed : Tryz.prog.follows .mixedOrders = true := by kernel_rfl
  clear h hok hY hy1 hb h8
  go_enter Tryz.func63, Tryz.ntmps63
  go_wp2_with fail
  refine HTM.out.mono ?_
  rintro e w1 ⟨rfl, h1, hk1⟩
  have HK1 := Lib.hid hk1
  obtain ⟨vh, vl, vk, vc, ve, vf, vo, vs, cs, c, h, h2⟩ := h1
  have HC := Lib.hid (h.cel.pushLi ⟨b, y1.mg, 0⟩ H8.out)
  obtain ⟨m, hm⟩ : ∃ m, y1.li.length = m := ⟨_, rfl⟩
  have m8 : m < 8 := by rw [← hm]; exact H8.out
  rw [hm, Int.natCast_succ] at HC
  have c88 : w1.cell? ⟨M, 88, none⟩ = some (.int .i64 (m : Int)) := by rw [← hm]; exact (h.cell 88).trans h.cel.de
  have c63 : w1.cell? ⟨M, 63, none⟩ = some (.int .i64 y1.mg) := (h.cell 63).trans h.cel.mg
  have f88 := h.free 88
  obtain ⟨u0, q0⟩ := h.old (j := 64 + m * 3) (by omega)
  obtain ⟨u1, q1⟩ := h.old (j := 64 + m * 3 + 1) (by omega)
  obtain ⟨u2, q2⟩ := h.old (j := 64 + m * 3 + 2) (by omega)
  have f0 := h.free (64 + m * 3)
  have f1 := h.free (64 + m * 3 + 1)
  have f2 := h.free (64 + m * 3 + 2)
  have m18 : (m : Int) < 8 := by omega
  have wr : wrap64 ((m : Int) + 1) = ((m + 1 : Nat) : Int) := by unfold wrap64; omega
  have HH := Lib.hid h
  have HI := Lib.hid h2
  obtain ⟨g, hg⟩ : ∃ g, y1.mg = g := ⟨_, rfl⟩
  have HG := Lib.hid hg
  rw [hg] at c63
  clear h h2 hm hk1 hg
  go_wp2_with fail
  go_region
  all_goals
    go_wp2_with fail
    first | go_end0 | refine bodyPost_ret (results_none rfl _ _ _) rfl ?_
    have E := ((((HH.out.ed.set (64 + m * 3) (.bool b)).set (64 + m * 3 + 1) (.int .i64 g)).set (64 + m * 3 + 2) (.int .i64 0)).set 88 (.int .i64 ((m : Int) + 1))).drewE
    have hc := HC.out
    rw [HG.out] at hc ⊢
    have h5 := HH.out.edit E hc rfl rfl rfl rfl rfl
    exact ⟨rfl, ⟨_, _, _, _, _, _, _, _, _, _, h5, HI.out⟩, HK1.out.trans (E.kp HH.out.notK)⟩
end Go.Proofs.YtjohhahfpgfjdaaGreatDoor.Tb
end
section
namespace Go.Proofs.YtjohhahfpgfjdaaGreatDoor.Tb
open Go.RowKit Go.Maps
set_option linter.unusedVariables false
set_option linter.unusedSimpArgs false
def liV (i : Li) : Value := .agg #[.bool i.num, .int .i64 i.place, .int .i64 i.items]
theorem sgnI_size (i : Li) (h : 0 ≤ i.items ∧ i.items ≤ 9000000000000000000) : 1 ≤ (sgnI i).size ∧ (sgnI i).size ≤ 22 := by
  unfold sgnI
  have h1 := Lib.itoa_length_le i.items (by omega) (by omega)
  have h3 : star.size = 1 := rfl
  have h4 : dot.size = 1 := rfl
  split
  · rw [ByteArray.size_append]
    have h2 : (⟨(Lib.itoa i.items).toArray⟩ : ByteArray).size = (Lib.itoa i.items).length := by show (Lib.itoa i.items).toArray.size = _; simp
    omega
  · omega
set_option maxRecDepth 100000 in
set_option maxHeartbeats 1000000 in
theorem signs_pro (i : Li) (w : World) (hT : S6.Tabs w) (h : 0 ≤ i.items ∧ i.items ≤ 9000000000000000000) : Calls Tryz.prog 96 #[liV i] w (fun e w' => e = .returned (.string (sgnI i)) ∧ Below w.heap.size w w') := by
  obtain ⟨nb, p, z⟩ := i
  unfold liV
  dsimp only at h ⊢
  have hA := below_box w (.cells #[.bool nb, .int .i64 p, .int .i64 z] 89)
  have HA := Lib.hid hA
  cases nb with
  | false =>
    have HS : Hid (sgnI ⟨false, p, z⟩ = star) := Lib.hid rfl
    rw [HS.out]
    clear hT h hA
    go_enter Tryz.func96, Tryz.ntmps96
    go_wp2_with fail
    go_ret
    exact ⟨rfl, HA.out⟩
  | true =>
    have HS : Hid (sgnI ⟨true, p, z⟩ = ⟨(Lib.itoa z).toArray⟩ ++ dot) := Lib.hid rfl
    have HI := Lib.hid (Tryz.strconv_Itoa z (by omega) (by omega) _ (hT.at hA).pow)
    have hl := Lib.itoa_length_le z (by omega) (by omega)
    rw [HS.out]
    obtain ⟨t, ht⟩ : ∃ t : ByteArray, (⟨(Lib.itoa z).toArray⟩ : ByteArray) = t := ⟨_, rfl⟩
    have hsz : t.size ≤ 21 := by rw [← ht]; show (Lib.itoa z).toArray.size ≤ 21; simpa using hl
    rw [ht] at HI ⊢
    have HSZ := Lib.hid hsz
    have hadd : ∀ W, (Op.stringOp .add t ⟨#[46]⟩).run Tryz.prog W = .ok (.string (t ++ dot)) W := fun W => run_string_add_sum W t ⟨#[46]⟩ (by have h9 : (⟨#[46]⟩ : ByteArray).size = 1 := rfl; omega)
    clear hT h hA hl ht hsz
    go_enter Tryz.func96, Tryz.ntmps96
    go_wp2_with fail
    refine HI.out.mono ?_
    rintro e w2 ⟨rfl, k, os, h9⟩
    have HB := Lib.hid (show Below w.heap.size w w2 by
      rw [h9]
      exact HA.out.trans (Lib.below_grow _ _ HA.out.size k os))
    clear h9
    go_wp2_with fail
    go_ret
    exact ⟨rfl, HB.out⟩
/-- The library's tables, which lie below a call's own blocks. -/
def TbL (B : Nat) (w : World) : Prop := ∃ w0, S6.Tabs w0 ∧ w0.heap.size ≤ B ∧ Below B w0 w
theorem TbL.tabs {B : Nat} {w : World} (h : TbL B w) : S6.Tabs w := by
  obtain ⟨w0, h1, h2, h3⟩ := h
  exact h1.below h3 h2
theorem TbL.kp {B : Nat} {K : Nat → Prop} {w w' : World} (h : TbL B w) (hk : Kp K w w') (hK : ∀ b, b < B → K b) : TbL B w' := by
  obtain ⟨w0, h1, h2, h3⟩ := h
  exact ⟨w0, h1, h2, h3.trans (hk.below hK)⟩
set_option maxRecDepth 100000 in
set_option maxHeartbeats 4000000 in
theorem beginItem_pro {op : Bool} {B M : Nat} {K : Nat → Prop} {wd : Int} {ch : List S6.Chg} {y : Ly} (w : World) (hT : TbL B w) (hKB : ∀ b, b < B → K b) (h : LyI op B M K wd ch y w) (hok : MkOk y) (h0 : 0 < y.li.length) (hp : 0 ≤ (lastLi y).place ∧ (lastLi y).place ≤ 200) (hz : 0 ≤ (lastLi y).items ∧ (lastLi y).items ≤ 1000000000) (hw : 10 ≤ wd ∧ wd ≤ 200) :
    Calls Tryz.prog 64 #[.pointer (some ⟨M, 0, none⟩)] w (LyPost op B M K wd ch (itemY wd y) (.tuple #[]) w) := by
  have HTM := Lib.hid (tellMarker_pro w h ⟨hok.pl0, by have := hok.mrg; have := hok.mg; omega⟩ (by have := hok.mrg; have := hok.pl0; have := hok.mg; omega) hok.ls)
  have HT := Lib.hid hT
  have HKB := Lib.hid hKB
  rw [← settleY_li] at h0
  have el : lastLi (settleY y) = lastLi y := by unfold lastLi; rw [settleY_li]
  rw [← el] at hp hz
  have HY : Hid (itemY wd y = (fun y1 : Ly =>
      let i : Li := { lastLi y1 with items := (lastLi y1).items + 1 }
      let s := sgnI i
      let m := min (i.place + s.size + 1) (wd - 4)
      let t := s.extract (s.size - m.toNat) s.size
      ({ y1 with li := y1.li.dropLast ++ [i], mg := m, sg := t, pl := min i.place (m - t.size) } : Ly)) (settleY y)) := Lib.hid rfl
  rw [HY.out]
  obtain ⟨y1, hy1⟩ : ∃ y1, settleY y = y1 := ⟨_, rfl⟩
  rw [hy1] at HTM h0 hp hz ⊢
  dsimp only
  obtain ⟨n, hn⟩ : ∃ n, y1.li.length = n + 1 := ⟨y1.li.length - 1, by omega⟩
  have HN := Lib.hid hn
  obtain ⟨⟨nb, pl, it⟩, hlast⟩ : ∃ i, lastLi y1 = i := ⟨_, rfl⟩
  have HLA := Lib.hid hlast
  rw [hlast] at hp hz ⊢
  dsimp only at hp hz ⊢
  have hsz := sgnI_size ⟨nb, pl, it + 1⟩ (by dsimp only; omega)
  have HSG := Lib.hid (fun W (hW : S6.Tabs W) => signs_pro ⟨nb, pl, it + 1⟩ W hW (by dsimp only; omega))
  unfold liV at HSG
  dsimp only at HSG
  obtain ⟨s, hs⟩ : ∃ s, sgnI ⟨nb, pl, it + 1⟩ = s := ⟨_, rfl⟩
  rw [hs] at HSG hsz ⊢
  obtain ⟨z, hzz⟩ : ∃ z, s.size = z := ⟨_, rfl⟩
  rw [hzz] at hsz ⊢
  have HZZ := Lib.hid hzz
  have mixed : Tryz.prog.follows .mixedOrders = true := by kernel_rfl
  clear h hok hy1 h0 el HY hlast hs hT hKB hn
  go_enter Tryz.func64, Tryz.ntmps64
  go_wp2_with fail
  refine HTM.out.mono ?_
  rintro e w1 ⟨rfl, h1, hk1⟩
  have HK1 := Lib.hid hk1
  have HT1 := Lib.hid (HT.out.kp hk1 HKB.out)
  obtain ⟨vh, vl, vk, vc, ve, vf, vo, vs, cs, c, h, h2⟩ := h1
  have n8 : n < 8 := by have := h.cel.hli; have := HN.out; omega
  have c88 : w1.cell? ⟨M, 88, none⟩ = some (.int .i64 ((n + 1 : Nat) : Int)) := by rw [← HN.out]; exact (h.cell 88).trans h.cel.de
  have e1 : wrap64 (((n + 1 : Nat) : Int) - 1) = (n : Int) := by unfold wrap64; omega
  have e2 : ((n + 1 : Nat) : Int) - 1 = (n : Int) := by omega
  have n8z : (n : Int) < 8 := by omega
  have hli := h.cel.li n (by have := HN.out; omega)
  have eln : lastLi y1 = y1.li[n]'(by have := HN.out; omega) := by unfold lastLi; rw [last_at HN.out]; rfl
  rw [← eln, HLA.out] at hli
  dsimp only at hli
  obtain ⟨a0, a1, a2⟩ := hli
  rw [← h.cell] at a0 a1 a2
  have f2 := h.free (64 + n * 3 + 2)
  have HH := Lib.hid h
  have HI := Lib.hid h2
  clear h h2 eln hk1
  have HC2 : Hid (LyC (c.setIfInBounds (64 + n * 3 + 2) (.int .i64 (it + 1))) wd { y1 with li := y1.li.dropLast ++ [⟨nb, pl, it + 1⟩] } vh vl vk vc ve vf) := Lib.hid (by
    have h9 := HH.out.cel.setItems n HN.out (it + 1)
    rw [HLA.out] at h9
    exact h9)
  have E2 := Lib.hid ((HH.out.ed.set (64 + n * 3 + 2) (.int .i64 (it + 1))).drewE)
  have HL2 := Lib.hid (HH.out.edit E2.out HC2.out rfl rfl rfl rfl rfl)
  have HK2 := Lib.hid (HK1.out.trans (E2.out.kp HH.out.notK))
  have HT2 := Lib.hid (HT1.out.kp (E2.out.kp HH.out.notK) HKB.out)
  go_wp2_with fail
  go_region
  go_wp2_with fail
  refine (HSG.out _ HT2.out.tabs).mono ?_
  rintro e w3 ⟨rfl, hb3⟩
  have hL3 := HL2.out.below hb3
  have HK3 := Lib.hid (HK2.out.trans (Kp.of hb3 (fun b hb => (HL2.out.apart b hb).1)))
  have HL3 := Lib.hid hL3
  have b1 := (hL3.cel.li n (by have := HN.out; simp; omega)).2.1
  have b1' : w3.cell? ⟨M, 64 + n * 3 + 1, none⟩ = some (.int .i64 pl) := by
    rw [hL3.cell, b1]
    have h9 : (y1.li.dropLast ++ [(⟨nb, pl, it + 1⟩ : Li)])[n]'(by have := HN.out; simp; omega) = ⟨nb, pl, it + 1⟩ := by
      rw [List.getElem_append_right (by have := HN.out; simp; omega)]
      simp
    simp only [h9]
  have b2 : w3.cell? ⟨M, 2, none⟩ = some (.int .i64 wd) := (hL3.cell 2).trans hL3.cel.wd
  obtain ⟨u63, b63⟩ := hL3.old (j := 63) (by omega)
  have f63 := hL3.free 63
  clear hb3 hL3 b1 c88 a0 a1 a2 f2
  go_wp2_with fail
  go_region
  all_goals
    obtain ⟨m, hm⟩ : ∃ m, min (pl + (z : Int) + 1) (wd - 4) = m := ⟨_, rfl⟩
    have m0 : 2 ≤ m ∧ m ≤ 196 := by omega
    have HMm := Lib.hid hm
    have E3 := (HL3.out.ed.set 63 (.int .i64 m)).drewE
    have h4 := HL3.out.edit (y' := { y1 with li := y1.li.dropLast ++ [⟨nb, pl, it + 1⟩], mg := m }) E3 (HL3.out.cel.setMg m) rfl rfl rfl rfl rfl
    have HK4 := Lib.hid (HK3.out.trans (E3.kp HL3.out.notK))
    have d1 : ((w3.setCell ⟨M, 63, none⟩ (.int .i64 m)).drew).cell? ⟨M, 64 + n * 3 + 1, none⟩ = some (.int .i64 pl) := by
      rw [E3.cell, Array.getElem?_setIfInBounds_ne (by omega), ← HL3.out.cell]
      exact b1'
    rw [hm]
    obtain ⟨W4, hW4⟩ : ∃ W4, (w3.setCell ⟨M, 63, none⟩ (.int .i64 m)).drew = W4 := ⟨_, rfl⟩
    rw [hW4] at h4 HK4 d1
    rw [hW4]
    have HL4 := Lib.hid h4
    have d63 : W4.cell? ⟨M, 63, none⟩ = some (.int .i64 m) := (h4.cell 63).trans h4.cel.mg
    obtain ⟨u0, q0⟩ := h4.old (j := 0) (by omega)
    obtain ⟨u1, q1⟩ := h4.old (j := 1) (by omega)
    have f0 := h4.free 0
    have f1 := h4.free 1
    obtain ⟨k, hk⟩ : ∃ k : Nat, z - m.toNat = k := ⟨_, rfl⟩
    have hmax : max 0 ((z : Int) - m) = (k : Int) := by omega
    have kz : (k : Int) ≤ z := by omega
    have HKk := Lib.hid hk
    obtain ⟨t, ht⟩ : ∃ t, s.extract k z = t := ⟨_, rfl⟩
    have HTT := Lib.hid ht
    have htz : t.size = z - k := by rw [← ht, ByteArray.size_extract, HZZ.out]; omega
    obtain ⟨tz, htz2⟩ : ∃ tz, t.size = tz := ⟨_, rfl⟩
    have HTZ := Lib.hid htz2
    rw [htz2] at htz
    have tzb : (tz : Int) ≤ m ∧ 1 ≤ tz ∧ tz ≤ 22 := by omega
    have hsl : ∀ W : World, (Instr.slice 9 (.string s) (some (.int .i64 (k : Int))) none none).run Tryz.prog W = .ok (.string t) W := fun W => by
      rw [run_slice_string_from_if W 9 s .i64 (k : Int) Tryz.underlying9, if_pos ⟨by omega, by have := HZZ.out; omega⟩, Int.toNat_natCast, HZZ.out, ht]
    clear h4 hW4 E3 b1' b2 b63 f63 hm hk ht htz
    go_wp2_with fail
    go_region
    all_goals
      go_wp2_with fail
      first | go_end0 | refine bodyPost_ret (results_none rfl _ _ _) rfl ?_
      have E5 := ((HL4.out.ed.set 0 (.string t)).set 1 (.int .i64 (min pl (m - (tz : Int))))).drewE
      have h6 := HL4.out.edit (y' := { y1 with li := y1.li.dropLast ++ [⟨nb, pl, it + 1⟩], mg := m, sg := t, pl := min pl (m - (tz : Int)) }) E5 ((HL4.out.cel.setSg t).setPl _) rfl rfl rfl rfl rfl
      rw [HMm.out, HKk.out, HTT.out, HTZ.out]
      exact ⟨rfl, ⟨_, _, _, _, _, _, _, _, _, _, h6, HI.out⟩, HK4.out.trans (E5.kp HL4.out.notK)⟩
end Go.Proofs.YtjohhahfpgfjdaaGreatDoor.Tb
end
section
namespace Go.Proofs.YtjohhahfpgfjdaaGreatDoor.Tb
open Go.RowKit Go.Maps
set_option linter.unusedVariables false
set_option linter.unusedSimpArgs false
theorem rowF_ok : ∀ (cs : List (Int × Int)) (fs acc : List (List Gl)) (d : Int), 0 ≤ d → d ≤ 200 → standF d cs = true → errF cs fs = 0 → (∀ r ∈ acc, LineOk d r) → ∀ r ∈ rowF acc cs fs, LineOk 200 r
  | [], fs, acc, d, h0, h2, _, _, ha => by
    intro r hr
    have : rowF acc [] fs = acc := by cases fs <;> rfl
    rw [this] at hr
    exact (ha r hr).mono h2
  | c :: cs, [], acc, d, h0, h2, _, _, ha => by
    intro r hr
    exact (ha r hr).mono h2
  | c :: cs, f :: fs, acc, d, h0, h2, hs, he, ha => by
    rw [standF_cons] at hs
    simp only [within, Bool.and_eq_true, decide_eq_true_eq] at hs
    obtain ⟨⟨⟨a1, a2⟩, a3, a4⟩, hs⟩ := hs
    have hf : fillE c.2 f = 0 := by
      by_cases h : fillE c.2 f = 0
      · exact h
      · simp only [errF, if_neg h] at he
        exact absurd he h
    have he' : errF cs fs = 0 := by simpa [errF, hf] using he
    exact rowF_ok cs fs (putB acc (fillM c.2 f) c.1) (c.1 + c.2) (by omega) (by omega) hs he' (putB_ok ha h0 a3 (fill_lines hf) (by omega))
theorem rowL_small {cs : List (Int × Int)} {fs : List (List Gl)} {r : List Gl} (h : r ∈ rowL cs fs) : r.length ≤ 200 := by
  unfold rowL at h
  split at h
  · rename_i h0
    have h1 : standF 0 cs = true ∧ errF cs fs = 0 := by
      unfold rowE at h0
      split at h0
      · cases h0
      · rename_i h2
        refine ⟨?_, h0⟩
        by_cases h3 : standF 0 cs = false
        · exact absurd (.inr (.inr (.inr h3))) h2
        · simpa using h3
    have := line_len (rowF_ok cs fs [] 0 (by omega) (by omega) h1.1 h1.2 (fun r hr => absurd hr (by simp)) r h)
    omega
  · simp at h
def rnK (y : Ly) (rows : List (List Gl)) (k : Nat) : Ly := (rows.take k).foldl tellY y
theorem rnK_succ (y : Ly) (rows : List (List Gl)) {k : Nat} (h : k < rows.length) : rnK y rows (k + 1) = tellY (rnK y rows k) rows[k] := by
  unfold rnK
  rw [List.take_succ_eq_append_getElem h, List.foldl_append]
  rfl
theorem rnK_ls {y : Ly} (h : y.ls.length ≤ 2000) (rows : List (List Gl)) (k : Nat) : (rnK y rows k).ls.length ≤ 2000 := by
  unfold rnK
  generalize rows.take k = l
  induction l generalizing y with
  | nil => exact h
  | cons a l ih =>
    rw [List.foldl_cons]
    refine ih ?_
    unfold tellY
    split
    · exact h
    · simp; omega
set_option maxRecDepth 100000 in
set_option maxHeartbeats 4000000 in
theorem tellRow_pro {op : Bool} {B M : Nat} {K : Nat → Prop} {wd : Int} {ch : List S6.Chg} {y : Ly} (w : World) (h : LyI op B M K wd ch y w) (hls : y.ls.length ≤ 2000) (hce : ∀ f ∈ y.ce, f.length ≤ 1000000) :
    Calls Tryz.prog 66 #[.pointer (some ⟨M, 0, none⟩)] w (LyPost op B M K wd ch (rowY y) (.tuple #[]) w) := by
  have HI := Lib.hid h
  obtain ⟨vh, vl, vk, vc, ve, vf, vo, vs, cs, c, h, h2⟩ := h
  obtain ⟨pe, ce', rfl⟩ := lenL h.ce.row
  obtain ⟨pc, cc', rfl, _, _⟩ := sliceC h.co
  have c90 : w.cell? ⟨M, 90, none⟩ = some (.slice pe y.ce.length ce') := (h.cell 90).trans h.cel.ce
  have c89 : w.cell? ⟨M, 89, none⟩ = some (.slice pc y.co.length cc') := (h.cell 89).trans h.cel.co
  by_cases h0 : y.ce.length = 0
  · have hY : rowY y = y := by unfold rowY; rw [if_pos h0]
    rw [hY]
    rw [h0] at c90
    clear h h2 hY h0 hls hce
    go_enter Tryz.func66, Tryz.ntmps66
    go_wp2_with fail
    first | go_end0 | refine bodyPost_ret (results_none rfl _ _ _) rfl ?_
    exact ⟨rfl, HI.out, Kp.refl _ _⟩
  · have hRO := row_pro (P := TlB B M vl vk (.slice pe y.ce.length ce') vo) (Q := fun _ => True) y.co y.ce (.slice pc y.co.length cc') (.slice pe y.ce.length ce') w.drew h.drew.co (h.drew.ce.rd (fun _ _ _ => trivial) (fun _ _ _ => trivial)) (fun f hf => by have := hce f hf; omega)
    have HRO := Lib.hid hRO
    unfold RowPost at HRO
    obtain ⟨rows, hrows⟩ : ∃ rows, rowL y.co y.ce = rows := ⟨_, rfl⟩
    have HSM := Lib.hid (show ∀ r ∈ rows, r.length ≤ 200 from fun r hr => by rw [← hrows] at hr; exact rowL_small hr)
    have hY : rowY y = { rnK y rows rows.length with ce := [] } := by unfold rowY rnK; rw [if_neg h0, hrows, List.take_length]
    rw [hY]
    obtain ⟨YE, hYE⟩ : ∃ YE, rnK y rows rows.length = YE := ⟨_, rfl⟩
    have HYE := Lib.hid hYE
    rw [hYE]
    rw [hrows] at HRO
    obtain ⟨z, hz⟩ : ∃ z, rowE y.co y.ce = z := ⟨_, rfl⟩
    rw [hz] at HRO
    obtain ⟨ne, hne⟩ : ∃ n, y.ce.length = n := ⟨_, rfl⟩
    obtain ⟨nc, hnc⟩ : ∃ n, y.co.length = n := ⟨_, rfl⟩
    rw [hne] at c90 HRO h0
    rw [hnc] at c89 HRO
    have t0 : ((ne : Int) == 0) = false := by simp; omega
    have HLS := Lib.hid hls
    have mixed : Tryz.prog.follows .mixedOrders = true := by kernel_rfl
    clear h h2 hY hYE hz hrows hls hce hRO h0 hne hnc
    go_enter Tryz.func66, Tryz.ntmps66
    go_wp2_with fail
    go_region_law (go_simp; go_at_call 101; refine HRO.out.mono ?_; rintro e w2 ⟨v2, rfl, hr2, hb2⟩; obtain ⟨pl2, cl2, rfl, hq1, hq2⟩ := hr2.form; have HR2 := Lib.hid hr2; have HB2 := Lib.hid hb2; have HQ2 := Lib.hid (show rows.length ≤ 9223372036854775807 from Nat.le_trans hq1 hq2); clear hr2 hb2 hq1 hq2)
    all_goals
      have HI2 := Lib.hid (HI.out.drew.grow HB2.out)
      have HK2 := Lib.hid (((Kp.refl K w).drew).trans (Kp.of HB2.out (fun b hb => HI.out.lt b hb)))
      obtain ⟨K1, hK1⟩ : ∃ K1 : Nat → Prop, (fun b => K b ∨ (w.drew.heap.size ≤ b ∧ b < w2.heap.size)) = K1 := ⟨_, rfl⟩
      have HRK := Lib.hid (HR2.out.imp (Q := K1) fun b hb h9 => by rw [← hK1]; exact .inr ⟨h9, hb⟩)
      have HKK := Lib.hid (show ∀ b, K b → K1 b from fun b hb => by rw [← hK1]; exact .inl hb)
      rw [hK1] at HI2
      obtain ⟨n, hn⟩ : ∃ n, rows.length = n := ⟨_, rfl⟩
      have HN := Lib.hid hn
      rw [hn] at HRK
      have n62 : n ≤ 9223372036854775807 := by rw [← hn]; exact HQ2.out
      try simp only [hn]
      clear hK1 hn c90 c89
      go_wp2_with fail
      go_loopw [26] (fun i wr => ∃ (k : Nat), i = .int .i64 k ∧ k ≤ n ∧ Hid (LyI op B M K1 wd ch (rnK y rows k) wr) ∧ Hid (Kp K1 w2 wr)) (fun i _ => n - (intOf i).toNat)
      case atStart => exact ⟨0, rfl, Nat.zero_le _, HI2, Lib.hid (Kp.refl _ _)⟩
      case round =>
        obtain ⟨k, rfl, hk, HL, HK⟩ := hrel
        by_cases hlt : k < n
        · have hkl : k < rows.length := by rw [HN.out]; exact hlt
          have k1 : (k : Int) < n := by omega
          have HLT := Lib.hid hlt
          obtain ⟨b, off, pz, cz, rfl, _, c0, q1, q2, hx1⟩ := (HRK.out.keep fun a ha _ => World.cell?_of_block (HK.out.block _ ha)).at_ hkl
          have hxl := HSM.out _ (List.getElem_mem hkl)
          have HSC := Lib.hid (rnK_succ y rows hkl)
          obtain ⟨x, hx⟩ : ∃ x, rows[k] = x := ⟨_, rfl⟩
          rw [hx] at c0 q1 hx1 hxl HSC
          obtain ⟨xl, hxn⟩ : ∃ xl, x.length = xl := ⟨_, rfl⟩
          rw [hxn] at c0 q1 hx1
          have HP1 := Lib.hid (lists_new1 wr _ _ (hx1.imp (Q := fun _ => True) fun _ _ _ => trivial) trivial)
          have HI6 := Lib.hid (HL.out.below (below_box wr (.cells #[.slice pz xl cz] 34)))
          have HK6 := Lib.hid (HK.out.alloc (fun b hb => HL.out.lt b hb) (.cells #[.slice pz xl cz] 34))
          have HTL := Lib.hid (tell_pro _ _ _ HI6.out HP1.out (by simp only [flat, List.flatten_cons, List.flatten_nil, List.append_nil]; omega) (rnK_ls HLS.out rows k))
          rw [show flat [x] = x by simp [flat]] at HTL
          rw [← HSC.out] at HTL
          clear hx hxn hkl hlt hx1 q1 q2 hxl
          go_wp2_with fail
          refine HTL.out.mono ?_
          rintro e w7 ⟨rfl, h7, hk7⟩
          have H7 := Lib.hid h7
          have HK7 := Lib.hid (HK6.out.trans hk7)
          clear h7 hk7 c0
          go_wp2_with fail
          go_roundw
          case measure => have := HLT.out; simp [intOf]; omega
          case rel => exact ⟨k + 1, by go_num, HLT.out, H7, HK7⟩
        · obtain rfl : k = n := by omega
          have hzk : ¬ (k : Int) < k := by omega
          have HE := HYE.out
          rw [HN.out] at HE
          rw [HE] at HL
          obtain ⟨vh, vl, vk, vc, ve, vf, vo, vs, cs, c, h, h2⟩ := HL.out
          have HH := Lib.hid h
          have HO := Lib.hid h2
          have f90 := h.free 90
          obtain ⟨u90, q90⟩ := h.old (j := 90) (by omega)
          clear hlt HE h h2
          go_wp2_with fail
          first | go_end0 | refine bodyPost_ret (results_none rfl _ _ _) rfl ?_
          have E := HH.out.ed.set 90 (.slice none 0 0)
          have h5 := HH.out.change (y' := { YE with ce := [] }) (ve' := nilV) (vo' := vo) (cs' := []) E (HH.out.cel.setCe (.slice none 0 0) []) rfl rfl (HH.out.coMove E (.inr rfl) (.inl rfl)) (.inr ⟨rfl, rfl, rfl⟩) (.inl ⟨rfl, rfl⟩)
          exact ⟨rfl, LyI.less ⟨_, _, _, _, _, _, _, _, _, _, h5, HO.out⟩ HKK.out, HK2.out.trans ((HK.out.trans (E.kp HH.out.notK)).mono HKK.out)⟩
end Go.Proofs.YtjohhahfpgfjdaaGreatDoor.Tb
end
section
namespace Go.Proofs.YtjohhahfpgfjdaaGreatDoor.Tb
open Go.RowKit Go.Maps
set_option linter.unusedVariables false
set_option linter.unusedSimpArgs false
set_option maxRecDepth 100000 in
set_option maxHeartbeats 2000000 in
theorem endTable_pro {op : Bool} {B M : Nat} {K : Nat → Prop} {wd : Int} {ch : List S6.Chg} {y : Ly} (w : World) (h : LyI op B M K wd ch y w) (hls : y.ls.length ≤ 2000) (hce : ∀ f ∈ y.ce, f.length ≤ 1000000) (hc0 : 0 < y.co.length) :
    Calls Tryz.prog 67 #[.pointer (some ⟨M, 0, none⟩)] w (LyPost op B M K wd ch (endY y) (.tuple #[]) w) := by
  have hY : endY y = { rowY y with co := [] } := by unfold endY; rw [if_neg (by omega)]
  rw [hY]
  have HIT := Lib.hid (inTable_pro w h)
  rw [decide_eq_true hc0] at HIT
  have HTR := Lib.hid (tellRow_pro w h hls hce)
  clear h hls hce hc0 hY
  go_enter Tryz.func67, Tryz.ntmps67
  go_wp2_with fail
  refine HIT.out.mono ?_
  rintro e w0 ⟨rfl, rfl⟩
  go_wp2_with fail
  refine HTR.out.mono ?_
  rintro e w1 ⟨rfl, h1, hk1⟩
  have HK1 := Lib.hid hk1
  obtain ⟨vh, vl, vk, vc, ve, vf, vo, vs, cs, c, h, h2⟩ := h1
  have HH := Lib.hid h
  have HO := Lib.hid h2
  have f89 := h.free 89
  obtain ⟨u89, q89⟩ := h.old (j := 89) (by omega)
  clear h h2 hk1
  go_wp2_with fail
  first | go_end0 | refine bodyPost_ret (results_none rfl _ _ _) rfl ?_
  have E := HH.out.ed.set 89 (.slice none 0 0)
  have h5 := HH.out.change (y' := { rowY y with co := [] }) (ve' := ve) (vo' := vo) (cs' := cs) E (HH.out.cel.setCo (.slice none 0 0) []) rfl rfl (RdC.nilC _) (.inl ⟨rfl, rfl, rfl⟩) (.inl ⟨rfl, rfl⟩)
  exact ⟨rfl, ⟨_, _, _, _, _, _, _, _, _, _, h5, HO.out⟩, HK1.out.trans (E.kp HH.out.notK)⟩
set_option maxRecDepth 100000 in
set_option maxHeartbeats 2000000 in
theorem endList_pro {op : Bool} {B M : Nat} {K : Nat → Prop} {wd : Int} {ch : List S6.Chg} {y : Ly} (w : World) (h : LyI op B M K wd ch y w) (hok : MkOk y) (hc0 : y.co.length = 0) (h0 : 0 < y.li.length) :
    Calls Tryz.prog 67 #[.pointer (some ⟨M, 0, none⟩)] w (LyPost op B M K wd ch (endY y) (.tuple #[]) w) := by
  have hY : endY y = (fun y1 : Ly => ({ y1 with li := y1.li.dropLast, mg := (lastLi y1).place } : Ly)) (settleY y) := by unfold endY; rw [if_pos hc0]
  rw [hY]
  have HIT := Lib.hid (inTable_pro w h)
  rw [decide_eq_false (show ¬ 0 < y.co.length by omega)] at HIT
  have HTM := Lib.hid (tellMarker_pro w h ⟨hok.pl0, by have := hok.mrg; have := hok.mg; omega⟩ (by have := hok.mrg; have := hok.pl0; have := hok.mg; omega) hok.ls)
  rw [← settleY_li] at h0
  obtain ⟨y1, hy1⟩ : ∃ y1, settleY y = y1 := ⟨_, rfl⟩
  rw [hy1] at HTM h0 ⊢
  dsimp only
  obtain ⟨n, hn⟩ : ∃ n, y1.li.length = n + 1 := ⟨y1.li.length - 1, by omega⟩
  have HN := Lib.hid hn
  have mixed : Tryz.prog.follows .mixedOrders = true := by kernel_rfl
  clear h hok hc0 hY hy1 h0 hn
  go_enter Tryz.func67, Tryz.ntmps67
  go_wp2_with fail
  refine HIT.out.mono ?_
  rintro e w0 ⟨rfl, rfl⟩
  go_wp2_with fail
  refine HTM.out.mono ?_
  rintro e w1 ⟨rfl, h1, hk1⟩
  have HK1 := Lib.hid hk1
  obtain ⟨vh, vl, vk, vc, ve, vf, vo, vs, cs, c, h, h2⟩ := h1
  have n8 : n < 8 := by have := h.cel.hli; have := HN.out; omega
  have c88 : w1.cell? ⟨M, 88, none⟩ = some (.int .i64 ((n + 1 : Nat) : Int)) := by rw [← HN.out]; exact (h.cell 88).trans h.cel.de
  have e1 : wrap64 (((n + 1 : Nat) : Int) - 1) = (n : Int) := by unfold wrap64; omega
  have e2 : ((n + 1 : Nat) : Int) - 1 = (n : Int) := by omega
  have n8z : (n : Int) < 8 := by omega
  have hli := (h.cel.li n (by have := HN.out; omega)).2.1
  have eln : lastLi y1 = y1.li[n]'(by have := HN.out; omega) := by unfold lastLi; rw [last_at HN.out]; rfl
  rw [← eln, ← h.cell] at hli
  obtain ⟨p, hp⟩ : ∃ p, (lastLi y1).place = p := ⟨_, rfl⟩
  have HPp := Lib.hid hp
  rw [hp] at hli
  have f88 := h.free 88
  have f63 := h.free 63
  obtain ⟨u63, q63⟩ := h.old (j := 63) (by omega)
  have HH := Lib.hid h
  have HO := Lib.hid h2
  clear h h2 eln hk1 hp
  go_wp2_with fail
  go_region
  all_goals
    go_wp2_with fail
    first | go_end0 | refine bodyPost_ret (results_none rfl _ _ _) rfl ?_
    rw [HPp.out]
    have E := ((HH.out.ed.set 88 (.int .i64 (n : Int))).set 63 (.int .i64 p)).drewE
    have h5 := HH.out.edit (y' := { y1 with li := y1.li.dropLast, mg := p }) E ((HH.out.cel.popLi n HN.out).setMg p) rfl rfl rfl rfl rfl
    exact ⟨rfl, ⟨_, _, _, _, _, _, _, _, _, _, h5, HO.out⟩, HK1.out.trans (E.kp HH.out.notK)⟩
end Go.Proofs.YtjohhahfpgfjdaaGreatDoor.Tb
end
