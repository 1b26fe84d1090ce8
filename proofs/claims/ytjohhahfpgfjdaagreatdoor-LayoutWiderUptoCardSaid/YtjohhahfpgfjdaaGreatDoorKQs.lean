/- Layer 13: the law LayoutWider, walked. -/
import Derived.Test.YtjohhahfpgfjdaaGreatDoorKQm
import Derived.Test.YtjohhahfpgfjdaaGreatDoorKQf
namespace Go.Proofs.YtjohhahfpgfjdaaGreatDoor.Tb
open Go.RowKit Go.Maps
open Go.Proofs.YtjohhahfpgfjdaaGreatDoor.Ly (Tabs2 Tabs2.below)
set_option linter.unusedVariables false
set_option linter.unusedSimpArgs false
set_option maxRecDepth 100000 in
set_option maxHeartbeats 8000000 in
theorem wider_walk (s : ByteArray) (wd mo : Int) (W : World) (hT : Tabs2 W) (hs : s.size ≤ 1048576) (hwd : -9223372036854775808 ≤ wd ∧ wd ≤ 9223372036854775807) :
    Calls Tryz.prog 8 #[.string s, .int .i64 wd, .int .i64 mo] W fun e W' => e = .returned (.bool true) ∧ Below W.heap.size W W' := by
  have HAW := Lib.hid (awake_law W hT.u hT.p)
  have HTT := Lib.hid hT
  obtain ⟨q, hq, e1, e2, e3, e4, e5⟩ := rem_two mo
  clear hT
  by_cases hw1 : wd < 10
  · go_enter Tryz.func8, Tryz.ntmps8
    go_wp2_with fail
    refine HAW.out.mono ?_
    rintro e w1 ⟨rfl, hb⟩
    have HB := Lib.hid hb
    clear hb
    go_wp2_with fail
    go_ret
    exact ⟨rfl, HB.out⟩
  obtain ⟨m, rfl⟩ : ∃ m : Nat, wd = (m : Nat) := ⟨wd.toNat, by omega⟩
  have v1 : wrap64 (200 - (q : Int)) = 200 - q := by unfold wrap64; omega
  by_cases hw2 : (200 : Int) - q < m
  · go_enter Tryz.func8, Tryz.ntmps8
    go_wp2_with fail
    refine HAW.out.mono ?_
    rintro e w1 ⟨rfl, hb⟩
    have HB := Lib.hid hb
    clear hb
    go_wp2_with fail
    go_ret
    exact ⟨rfl, HB.out⟩
  have HPL := Lib.hid (fun w1 => plain_ref s w1 (by omega))
  obtain ⟨pb, hpb⟩ : ∃ pb, ((chars s).find? unplain).isNone = pb := ⟨_, rfl⟩
  obtain ⟨pz, hpz⟩ : ∃ pz, placeOf ((chars s).find? unplain) = pz := ⟨_, rfl⟩
  unfold Finds at HPL
  rw [hpb, hpz] at HPL
  have HPB := Lib.hid (show pb = true → Ir.plainB s = true from fun e => hpb.trans e)
  have HCL := Lib.hid (fun w1 => cells_ref s w1 (by omega))
  clear hpb hpz
  go_enter Tryz.func8, Tryz.ntmps8
  go_wp2_with fail
  refine HAW.out.mono ?_
  rintro e w1 ⟨rfl, hb⟩
  have HB := Lib.hid hb
  clear hb
  go_wp2_with fail
  refine (HPL.out w1).mono ?_
  rintro e w2 ⟨rfl, hb2⟩
  have HB2 := Lib.hid (HB.out.trans (hb2.mono HB.out.size))
  clear hb2 HPL
  cases pb with
  | false =>
    go_wp2_with fail
    go_ret
    exact ⟨rfl, HB2.out⟩
  | true =>
  by_cases hz : s.size = 0
  · have hse : s.toList = [] := by
      rw [Lib.toList_data]
      exact List.eq_nil_of_length_eq_zero (by rw [Array.length_toList]; exact hz)
    go_wp2_with fail
    go_ret
    exact ⟨rfl, HB2.out⟩
  have hse : (s.toList == []) = false := by
    rw [beq_eq_false_iff_ne]
    intro e
    rw [Lib.toList_data] at e
    have := congrArg List.length e
    rw [Array.length_toList] at this
    exact hz this
  by_cases h5 : 5000 < s.size
  · have h5i : (5000 : Int) < s.size := by omega
    go_wp2_with fail
    go_ret
    exact ⟨rfl, HB2.out⟩
  have h5i : ¬ (5000 : Int) < s.size := by omega
  go_wp2_with fail
  refine (HCL.out _).mono ?_
  rintro e w3 ⟨vc, rfl, hoc, hb3⟩
  have HB3 := Lib.hid (HB2.out.trans (hb3.mono HB2.out.size))
  have HOC := Lib.hid hoc
  obtain ⟨pc, cc, rfl⟩ := Ir.lenL hoc
  obtain ⟨nc, hnc⟩ : ∃ nc, (cells s).length = nc := ⟨_, rfl⟩
  have HNC := Lib.hid hnc
  have hncl := cells_len s
  rw [hnc] at HOC hncl ⊢
  clear hoc hb3 hnc HCL
  go_wp2_with fail
  go_loopw [9, 50] (fun nv i wr => ∃ (k : Nat) (z : Int), i = .int .i64 k ∧ k ≤ nc ∧ nv = .int .i64 z ∧ (0 ≤ z ∧ z ≤ m) ∧ Hid (okQ m z ((flowOf s).drop k) → okQ m 0 (flowOf s)) ∧ Hid (Below w3.heap.size w3 wr)) (fun _ i _ => nc - (intOf i).toNat)
  case atStart => exact ⟨0, 0, rfl, Nat.zero_le _, rfl, by omega, Lib.hid (fun h => h), Lib.hid (Below.refl _ _)⟩
  case round =>
    obtain ⟨k, z, rfl, hk, rfl, hz0, HOK, HBr⟩ := hrel
    have HBW := Lib.hid (HB3.out.trans (HBr.out.mono HB3.out.size))
    by_cases hlt : k < nc
    · have hkc : k < (cells s).length := by rw [HNC.out]; exact hlt
      have ho := own_below HOC.out HBr.out
      obtain ⟨g, cap, e, -, -⟩ := World.ownsRow.form ho (by omega)
      cases e
      obtain ⟨y, hy⟩ : ∃ y, (cells s)[k] = y := ⟨_, rfl⟩
      have hy2 : (cells s)[k]? = some y := by rw [List.getElem?_eq_getElem hkc, hy]
      have g0 := (World.ownsRow.cellAt ho (k * 3) (by omega)).trans (celsV_get s _ k y hy2).1
      have g1 := (World.ownsRow.cellAt ho (k * 3 + 1) (by omega)).trans (celsV_get s _ k y hy2).2.1
      have g2 := (World.ownsRow.cellAt ho (k * 3 + 2) (by omega)).trans (celsV_get s _ k y hy2).2.2
      have hq1 := (okQ_at (w := (m : Nat)) (n := z) hkc).2
      rw [hy] at hq1
      have hw := cel_wide _ y (List.mem_of_getElem? hy2)
      obtain ⟨y1, ye, yw⟩ := y
      dsimp only at g0 g1 g2 hq1 hw
      obtain ⟨tx, htx⟩ : ∃ tx, s.extract y1 ye = tx := ⟨_, rfl⟩
      rw [htx] at g0 hq1
      have HQ := Lib.hid hq1
      have hA := below_box wr (.cells #[.string tx, .int .i64 (y1 : Nat), .int .i64 yw] 57)
      have HBA := Lib.hid (HBr.out.trans (hA.mono HBr.out.size))
      have HBX := Lib.hid (HBW.out.trans (hA.mono HBW.out.size))
      have k1 : (k : Int) < nc := by omega
      have HLT := Lib.hid hlt
      have m200 : m ≤ 200 := by omega
      have v3 : wrap64 (z + yw) = z + yw := by unfold wrap64; omega
      have hm0 : ¬ (m : Int) < 0 := by omega
      have hz3 : 0 ≤ z + yw := by omega
      clear ho hy hy2 htx hq1 hA hkc hlt hw
      by_cases hb : tx.toList = [32]
      · have HQ2 := Lib.hid (show okQ m 0 ((flowOf s).drop (k + 1)) → okQ m z ((flowOf s).drop k) from fun h => HQ.out (by rw [hb]; exact ⟨by simp, h⟩))
        go_wp2_with fail
        go_roundw
        case measure => have := HLT.out; simp [intOf]; omega
        case rel => exact ⟨k + 1, 0, by go_num, HLT.out, rfl, by omega, Lib.hid (fun h => HOK.out (HQ2.out h)), HBA⟩
      · have hbf : (tx.toList == [32]) = false := by rw [beq_eq_false_iff_ne]; exact hb
        by_cases hgt : (m : Int) < z + yw
        · clear hb
          go_wp2_with fail
          go_ret
          exact ⟨rfl, HBX.out⟩
        · have HQ2 := Lib.hid (show okQ m (z + yw) ((flowOf s).drop (k + 1)) → okQ m z ((flowOf s).drop k) from fun h => HQ.out (by rw [hbf]; exact ⟨by simp; omega, h⟩))
          clear hb
          go_wp2_with fail
          go_roundw
          case measure => have := HLT.out; simp [intOf]; omega
          case rel => exact ⟨k + 1, z + yw, by go_num, HLT.out, by go_num, by omega, Lib.hid (fun h => HOK.out (HQ2.out h)), HBA⟩
    · obtain rfl : k = nc := by omega
      have k1 : ¬ (k : Int) < k := by omega
      have HO := Lib.hid (HOK.out (by rw [List.drop_of_length_le (by rw [flow_len, HNC.out]; exact Nat.le_refl _)]; trivial))
      have HWI := Lib.hid (wider_of (s := s) (w1 := m) (w2 := (m : Int) + q) hw1 (by omega) (by omega) (HPB.out trivial) (by omega) (by omega) HO.out)
      have HPO := Lib.hid (para_op s wr)
      have HPK := Lib.hid (para_bulk s (by omega))
      have HBP := Lib.hid (HBW.out.trans ((below_box wr (paraB s)).mono HBW.out.size))
      unfold paraB at HPO HBP
      have HTW := Lib.hid (fun (w : World) (v : Value) (h : Ir.RdO (fun _ => True) w v (onePara s)) => Ir.twin_law (onePara s) v w h HPK.out.1 HPK.out.2.1)
      have HLY := Lib.hid (fun (w : World) (hb : Below W.heap.size W w) (v : Value) (B : Nat) (wd : Int) (h : Ir.RdO (B ≤ ·) w v (onePara s)) => layout_pro [] (onePara s) (.slice none 0 0) v 0 wd w ⟨none, 0, rfl, Nat.le_refl _, Nat.zero_le _, fun i hi => absurd hi (Nat.not_lt_zero _)⟩ (fun s hs => by simp at hs) h HPK.out.2.2 (HTT.out.u.below hb (Nat.le_refl _)) (HTT.out.p.below hb (Nat.le_refl _)))
      have v2 : wrap64 ((m : Int) + q) = m + q := by unfold wrap64; omega
      clear hlt hz0
      go_wp2_with fail
      refine (HTW.out _ _ HPO.out).mono ?_
      rintro e w4 ⟨va, psa, rfl, hoa, hpa, hba⟩
      have HBa := Lib.hid (HBP.out.trans (hba.mono HBP.out.size))
      have HPa := Lib.hid (HPO.out.below hba)
      have HRa := Lib.hid (twin_rd (w' := w4) hoa hpa)
      obtain ⟨pva, cva, rfl⟩ := Ir.lenL hoa.row
      clear hoa hpa hba HPO
      go_wp2_with fail
      have hL1 := HLY.out w4 HBa.out _ _ (m : Int) HRa.out
      unfold LayIs at hL1
      rw [HWI.out.1] at hL1
      obtain ⟨d, hd⟩ : ∃ d, layL [] (onePara s) 0 (m : Int) = d := ⟨_, rfl⟩
      obtain ⟨d2, hd2⟩ : ∃ d2, layL [] (onePara s) 0 ((m : Int) + q) = d2 := ⟨_, rfl⟩
      have HE2 := Lib.hid HWI.out.2.1
      have HLE := Lib.hid HWI.out.2.2
      rw [hd] at hL1
      rw [hd, hd2] at HLE
      have HD2 := Lib.hid hd2
      have HL1 := Lib.hid hL1
      clear hL1 hd hd2 HWI HRa HO HOC
      refine HL1.out.mono ?_
      rintro e w5 ⟨vl, vr, vk, rfl, hD, hb5⟩
      have hB5 := HBa.out.trans (hb5.mono HBa.out.size)
      obtain ⟨pl, cl, rfl, -, -⟩ := hD.lines.form
      obtain ⟨pr, cr, rfl, -, -⟩ := hD.rects.form
      obtain ⟨pk, ck, rfl, -, -, -⟩ := hD.links
      unfold laidV
      obtain ⟨nl, hnl⟩ : ∃ nl, d.lines.length = nl := ⟨_, rfl⟩
      obtain ⟨nr, hnr⟩ : ∃ nr, d.rects.length = nr := ⟨_, rfl⟩
      obtain ⟨nk, hnk⟩ : ∃ nk, d.links.length = nk := ⟨_, rfl⟩
      obtain ⟨m1, hm1⟩ : ∃ m1, d.more = m1 := ⟨_, rfl⟩
      rw [hnl] at HLE
      rw [hnl, hnr, hnk, hm1]
      have hA5 := below_box w5 (.cells #[.slice pl nl cl, .slice pr nr cr, .slice pk nk ck, .bool m1] 29)
      have HX5 := Lib.hid (laid_cells w5 (.slice pl nl cl) (.slice pr nr cr) (.slice pk nk ck) m1)
      have HP5 := Lib.hid ((HPa.out.below hb5).below hA5)
      have HB5 := Lib.hid (hB5.trans (hA5.mono hB5.size))
      have HTW2 := Lib.hid (HTW.out _ _ HP5.out)
      clear hD hb5 hB5 hA5 hnl hnr hnk hm1 HL1 HPa HBa HTW
      go_wp2_with fail
      refine HTW2.out.mono ?_
      rintro e w6 ⟨vb, psb, rfl, hob, hpb, hbb⟩
      have HX6 := Lib.hid (show w6.heap[w5.heap.size]? = some (.cells #[.slice pl nl cl, .slice pr nr cr, .slice pk nk ck, .bool m1] 29 (0, 0)) from (hbb.block _ (Array.getElem?_eq_some_iff.1 HX5.out).1).trans HX5.out)
      have hB6 := HB5.out.trans (hbb.mono HB5.out.size)
      have hL2 := HLY.out w6 hB6 _ _ ((m : Int) + q) (twin_rd (w' := w6) hob hpb)
      unfold LayIs at hL2
      rw [HE2.out, HD2.out] at hL2
      have HL2 := Lib.hid hL2
      have HB6 := Lib.hid hB6
      obtain ⟨pvb, cvb, rfl⟩ := Ir.lenL hob.row
      clear hob hpb hbb hB6 hL2 HX5 HLY HP5 HTW2
      go_wp2_with fail
      refine HL2.out.mono ?_
      rintro e w7 ⟨vl2, vr2, vk2, rfl, hD2, hb7⟩
      obtain ⟨pl2, cl2, rfl, -, -⟩ := hD2.lines.form
      obtain ⟨pr2, cr2, rfl, -, -⟩ := hD2.rects.form
      obtain ⟨pk2, ck2, rfl, -, -, -⟩ := hD2.links
      unfold laidV
      obtain ⟨nl2, hnl2⟩ : ∃ nl2, d2.lines.length = nl2 := ⟨_, rfl⟩
      obtain ⟨nr2, hnr2⟩ : ∃ nr2, d2.rects.length = nr2 := ⟨_, rfl⟩
      obtain ⟨nk2, hnk2⟩ : ∃ nk2, d2.links.length = nk2 := ⟨_, rfl⟩
      obtain ⟨m2, hm2⟩ : ∃ m2, d2.more = m2 := ⟨_, rfl⟩
      rw [hnl2] at HLE
      rw [hnl2, hnr2, hnk2, hm2]
      have hle := HLE.out
      have hB7 := HB6.out.trans (hb7.mono HB6.out.size)
      have hA7 := below_box w7 (.cells #[.slice pl2 nl2 cl2, .slice pr2 nr2 cr2, .slice pk2 nk2 ck2, .bool m2] 29)
      have hX7 := laid_cells w7 (.slice pl2 nl2 cl2) (.slice pr2 nr2 cr2) (.slice pk2 nk2 ck2) m2
      have hl56 : w5.heap.size < w6.heap.size := (Array.getElem?_eq_some_iff.1 HX6.out).1
      have hx67 := (hb7.block _ hl56).trans HX6.out
      have hx68 := (hA7.block _ (Nat.lt_of_lt_of_le hl56 hb7.size)).trans hx67
      have HB8 := Lib.hid (hB7.trans (hA7.mono hB7.size))
      have a0 : (w7.alloc (.cells #[.slice pl2 nl2 cl2, .slice pr2 nr2 cr2, .slice pk2 nk2 ck2, .bool m2] 29)).cell? ⟨w5.heap.size, 0, none⟩ = some (.slice pl nl cl) := by rw [cell_of_row _ _ _ _ _ _ hx68]; rfl
      have b0 : (w7.alloc (.cells #[.slice pl2 nl2 cl2, .slice pr2 nr2 cr2, .slice pk2 nk2 ck2, .bool m2] 29)).cell? ⟨w7.heap.size, 0, none⟩ = some (.slice pl2 nl2 cl2) := by rw [cell_of_row _ _ _ _ _ _ hX7]; rfl
      have k3 : (nl2 : Int) ≤ nl := by omega
      clear hD2 hb7 hB7 hA7 hnl2 hnr2 hnk2 hm2 HL2 hX7 hx67 hx68 HX6
      go_wp2_with fail
      go_ret
      exact ⟨rfl, HB8.out⟩
end Go.Proofs.YtjohhahfpgfjdaaGreatDoor.Tb
