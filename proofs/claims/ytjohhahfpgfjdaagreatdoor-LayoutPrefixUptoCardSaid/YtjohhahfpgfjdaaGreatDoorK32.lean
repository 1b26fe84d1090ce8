/- The texts that the laws of layout stand on, part 32. -/
import Derived.Test.YtjohhahfpgfjdaaGreatDoorK31
section
namespace Go.Proofs.YtjohhahfpgfjdaaGreatDoor.Tb
open Go.RowKit Go.Maps
set_option linter.unusedVariables false
set_option linter.unusedSimpArgs false
theorem LyM.cf (B M : Nat) (K : Nat → Prop) {wd : Int} {ch : List S6.Chg} {y : Ly} {op : Bool} {w : World} (h : LyI op B M K wd ch y w) : ∃ vl ve vf vo vc c vh vk vs cs, LyM B M K wd ch y vh vl vk vc ve vf vo vs cs c w ∧ (op = true → vf = vo) := by
  obtain ⟨vh, vl, vk, vc, ve, vf, vo, vs, cs, c, h, h2⟩ := h
  exact ⟨_, _, _, _, _, _, _, _, _, _, h, h2⟩
/-- The cell that ends in a table. -/
theorem LyI.noFl {B M : Nat} {K : Nat → Prop} {wd : Int} {ch : List S6.Chg} {y : Ly} {op : Bool} {w : World} (h : LyI op B M K wd ch y w) : LyI false B M K wd ch { y with fl := [] } w := by
  obtain ⟨vh, vl, vk, vc, ve, vf, vo, vs, cs, c, h, h2⟩ := h
  exact ⟨_, _, _, _, _, _, _, _, _, _, h.noFlow (h.cel.reFl []), fun e => by cases e⟩
set_option maxRecDepth 100000 in
set_option maxHeartbeats 4000000 in
theorem endCell_pro {B M : Nat} {K : Nat → Prop} {wd : Int} {ch : List S6.Chg} {y : Ly} (w : World) (h : LyI true B M K wd ch y w) (h0 : 0 < y.lo.length) (hc0 : 0 < y.co.length) (hce : y.ce.length ≤ 1000000) :
    Calls Tryz.prog 62 #[.pointer (some ⟨M, 0, none⟩)] w (LyPost false B M K wd ch (doneY wd y) (.tuple #[]) w) := by
  obtain ⟨i0, hi0, hz0, hz1, hz2⟩ := info_parts infoL
  have hY : doneY wd y = { offY y with ce := y.ce ++ [y.fl], fl := [] } := by unfold doneY; rw [if_neg (by omega)]
  rw [hY]
  have HT := Lib.hid (takeOff_pro w h h0)
  obtain ⟨tb, htb⟩ : ∃ b, (y.lo.getLast?.map (·.2)).getD false = b := ⟨_, rfl⟩
  rw [htb] at HT
  have HIT := Lib.hid (fun W (hW : LyI true B M K wd ch (offY y) W) => inTable_pro W hW)
  rw [show (offY y).co = y.co from rfl, decide_eq_true hc0] at HIT
  have HCE := Lib.hid hce
  have mixed : Tryz.prog.follows .mixedOrders = true := by kernel_rfl
  clear h h0 hY htb hce hc0
  go_enter Tryz.func62, Tryz.ntmps62
  go_wp2_with fail
  refine HT.out.mono ?_
  rintro e w1 ⟨rfl, h1, hk1⟩
  have HK1 := Lib.hid hk1
  have HIT1 := Lib.hid (HIT.out w1 h1)
  obtain ⟨vh, vl, vk, vc, ve, vf, vo, vs, cs, c, h, h2⟩ := h1
  obtain rfl : vf = vo := h2 rfl
  clear hk1 h2
  go_wp2_with fail
  refine HIT1.out.mono ?_
  rintro e w2 ⟨rfl, rfl⟩
  obtain ⟨pf, cf, rfl⟩ := lenL h.fl
  obtain ⟨pe, ce', rfl⟩ := lenL h.ce.row
  obtain ⟨nf, hnf⟩ : ∃ n, (offY y).fl.length = n := ⟨_, rfl⟩
  obtain ⟨ne, hne⟩ : ∃ n, (offY y).ce.length = n := ⟨_, rfl⟩
  have HNF := Lib.hid hnf
  have HNE := Lib.hid hne
  have hne9 : ne ≤ 1000000 := by rw [← hne]; exact HCE.out
  rw [hnf, hne] at h
  have HH := Lib.hid h
  have hbx := below_box w1.drew (.cells #[.slice pf nf cf] 34)
  have HLD := Lib.hid (h.drew.below hbx)
  have c91 : w1.cell? ⟨M, 91, none⟩ = some (.slice pf nf cf) := (h.cell 91).trans h.cel.fl
  have c90 : w1.cell? ⟨M, 90, none⟩ = some (.slice pe ne ce') := (h.cell 90).trans h.cel.ce
  have x90 : (w1.alloc (.cells #[.slice pf nf cf] 34)).cell? ⟨M, 90, none⟩ = some (.slice pe ne ce') := ((h.below (below_box w1 _)).cell 90).trans h.cel.ce
  have L1 := Lib.hid (show ne + 1 ≤ maxLen by unfold maxLen; omega)
  have L2 := Lib.hid (show (ne + 1) * 24 ≤ 140737488355328 by omega)
  have L3 := Lib.hid (show B ≤ (w1.drew.alloc (.cells #[.slice pf nf cf] 34)).heap.size by have := HLD.out.base; have := HLD.out.lt; omega)
  have HKW := Lib.hid (fun b hb => (h.apart b hb).1)
  clear h hnf hne hbx
  go_wp2_with fail
  go_region_law (refine step_append_lies _ rfl (.tmp 18) (.tmp 23) 25 rfl B 34 i0 _ 1 24 Tryz.underlying25 hi0 hz0 hz1 hz2 rfl (by decide) (.slice pe ne ce') ne cs (by simp [Act.eval]) (by have h9 := HLD.out.ce.row; rw [HNE.out] at h9; exact h9) ⟨w1.heap.size, 0, none⟩ 1 1 [.slice pf nf cf] (by simp [Act.eval, Value.cells]) rfl (cells_newL _ _ _) (by intro u hu; rw [List.mem_singleton] at hu; rw [hu]; rfl) (by decide) L1.out L2.out L3.out _ rfl ?_; intro g' cap w3 hown' hgrow hat _; have HW3 := Lib.hid hown'; have HGR := Lib.hid hgrow; have HAT := Lib.hid hat; have hgk := (hgrow.block M HLD.out.lt (fun e => HLD.out.nM.2.2.1 e.symm)).trans HLD.out.blk; have r4 : w3.cell? ⟨M, 90, none⟩ = some (.slice pe ne ce') := (by rw [cell_of_row _ _ _ _ _ _ hgk]; exact HLD.out.cel.ce); have g4 : w3.frozen? ⟨M, 90, none⟩ = false := frozen_of_row w3 M 90 _ _ hgk; have HGK := Lib.hid hgk; clear hown' hgrow hat hgk)
  all_goals
    go_wp2_with fail
    first | go_end0 | refine bodyPost_ret (results_none rfl _ _ _) rfl ?_
    have hp := HLD.out.pushCell (y' := { offY y with ce := y.ce ++ [y.fl], fl := [] }) HGR.out (by rw [HNE.out]; exact HW3.out) (by exact HAT.out) (W4 := w3.setCell ⟨M, 90, none⟩ (.slice (some ⟨g', 0, none⟩) ((offY y).ce.length + 1) cap)) (by simp [World.setCell]) (heap_setCell_same w3 M 90 _ _ _ HGK.out) (fun b hb => Below.heap_setCell _ _ _ _ hb) rfl ((HLD.out.cel.setCe (.slice (some ⟨g', 0, none⟩) ((offY y).ce.length + 1) cap) (y.ce ++ [y.fl])).reFl [])
    rw [HNE.out] at hp
    have HK4 := ((((Kp.refl K w1).drew).alloc (fun b hb => HKW.out b hb) (.cells #[.slice pf nf cf] 34)).grown HGR.out (fun b hb => ⟨(HLD.out.apart b hb).1, (HLD.out.apart b hb).2.2.2.2.1⟩)).set 90 HH.out.notK (.slice (some ⟨g', 0, none⟩) (ne + 1) cap)
    exact ⟨rfl, ⟨_, _, _, _, _, _, _, _, _, _, hp.1, fun e => by cases e⟩, HK1.out.trans HK4⟩
set_option maxRecDepth 100000 in
set_option maxHeartbeats 8000000 in
theorem endLines_pro {B M : Nat} {K : Nat → Prop} {wd : Int} {ch : List S6.Chg} {y : Ly} (w : World) (h : LyI true B M K wd ch y w) (h0 : 0 < y.lo.length) (hc0 : y.co.length = 0) (hw : 10 ≤ wd ∧ wd ≤ 200) (hok : MkOk y) (hfl : y.fl.length ≤ 1000000) :
    Calls Tryz.prog 62 #[.pointer (some ⟨M, 0, none⟩)] w (LyPost false B M K wd ch (doneY wd y) (.tuple #[]) w) := by
  have hmg0 : 0 ≤ y.mg := by have := hok.pl0; have := hok.mrg; omega
  obtain ⟨lines, hlin⟩ : ∃ lines, fillL (wd - y.mg) y.fl = lines := ⟨_, rfl⟩
  have HSM := Lib.hid (show ∀ r ∈ lines, r.length ≤ 200 from fun r hr => by rw [← hlin] at hr; exact fill_small hr)
  have hY : doneY wd y = { linesY (offY y) lines with fl := [] } := by unfold doneY; rw [if_pos hc0, hlin]
  rw [hY]
  obtain ⟨YE, hYE⟩ : ∃ YE, linesY (offY y) lines = YE := ⟨_, rfl⟩
  have HYE := Lib.hid hYE
  rw [hYE]
  have HT := Lib.hid (takeOff_pro w h h0)
  obtain ⟨tb, htb⟩ : ∃ b, (y.lo.getLast?.map (·.2)).getD false = b := ⟨_, rfl⟩
  rw [htb] at HT
  have HIT := Lib.hid (fun W (hW : LyI true B M K wd ch (offY y) W) => inTable_pro W hW)
  rw [show (offY y).co = y.co from rfl, decide_eq_false (show ¬ 0 < y.co.length by omega)] at HIT
  have HOK := Lib.hid (show MkOk (offY y) from ⟨hok.pl0, hok.mrg, hok.mg, hok.ls⟩)
  have HBK := Lib.hid (fun W => blanks_pro y.mg hmg0 (by have := hok.mg; omega) W)
  obtain ⟨mg, hmg⟩ : ∃ mg, y.mg = mg := ⟨_, rfl⟩
  have HMG := Lib.hid hmg
  obtain ⟨z, hz⟩ : ∃ z, fillE (wd - mg) y.fl = z := ⟨_, rfl⟩
  have HFI := Lib.hid (fun P v W (hr : RdG P W v y.fl) => fill_pro (wd - mg) y.fl v W hr (by omega))
  unfold FillPost at HFI
  rw [hmg] at hlin HBK hmg0
  rw [hz, hlin] at HFI
  have mg2 : mg ≤ 200 := by have := hok.mg; omega
  have ws : wrap64 (wd - mg) = wd - mg := by unfold wrap64; omega
  have ws2 : IntKind.i64.wrap (wd - mg) = wd - mg := IntWalk.i64_in _ (by omega)
  have mixed : Tryz.prog.follows .mixedOrders = true := by kernel_rfl
  obtain ⟨nf, hnf⟩ : ∃ n, (offY y).fl.length = n := ⟨_, rfl⟩
  have HNF := Lib.hid hnf
  clear h h0 hY hYE htb hc0 hok hfl hlin hmg hz hnf
  go_enter Tryz.func62, Tryz.ntmps62
  go_wp2_with fail
  refine HT.out.mono ?_
  rintro e w1 ⟨rfl, h1, hk1⟩
  have HK1 := Lib.hid hk1
  have HI1 := Lib.hid h1
  have HIT1 := Lib.hid (HIT.out w1 h1)
  obtain ⟨vh, vl, vk, vc, ve, vf, vo, vs, cs, c, h, h2⟩ := h1
  obtain rfl : vf = vo := h2 rfl
  clear hk1 h2
  go_wp2_with fail
  refine HIT1.out.mono ?_
  rintro e w2 ⟨rfl, rfl⟩
  obtain ⟨pf, cf, rfl⟩ := lenL h.fl
  have c91 : w1.cell? ⟨M, 91, none⟩ = some (.slice pf (offY y).fl.length cf) := (h.cell 91).trans h.cel.fl
  have c63 : w1.cell? ⟨M, 63, none⟩ = some (.int .i64 mg) := by rw [← HMG.out]; exact (h.cell 63).trans h.cel.mg
  have c2 : w1.cell? ⟨M, 2, none⟩ = some (.int .i64 wd) := (h.cell 2).trans h.cel.wd
  have HF2 := Lib.hid (HFI.out _ _ w1.drew (RdG.own h.drew.fl rfl))
  rw [show (offY y).fl = y.fl from rfl] at c91 HF2
  rw [show y.fl.length = nf from HNF.out] at c91 HF2
  clear h
  go_wp2_with fail
  go_region_law (go_simp; go_at_call 92; refine HF2.out.mono ?_; rintro e w2 ⟨v2, rfl, hr2, hb2⟩; obtain ⟨pl2, cl2, rfl, hq1, hq2⟩ := hr2.form; have HR2 := Lib.hid hr2; have HB2 := Lib.hid hb2; have HQ2 := Lib.hid (show lines.length ≤ 9223372036854775807 from Nat.le_trans hq1 hq2); clear hr2 hb2 hq1 hq2)
  all_goals
    have HI2 := Lib.hid (HI1.out.drew.grow HB2.out)
    have HK2 := Lib.hid ((HK1.out.drew).trans (Kp.of HB2.out (fun b hb => HI1.out.lt b hb)))
    obtain ⟨K1, hK1⟩ : ∃ K1 : Nat → Prop, (fun b => K b ∨ (w1.drew.heap.size ≤ b ∧ b < w2.heap.size)) = K1 := ⟨_, rfl⟩
    have HRK := Lib.hid (HR2.out.imp (Q := K1) fun b hb h9 => by rw [← hK1]; exact .inr ⟨h9, hb⟩)
    have HKK := Lib.hid (show ∀ b, K b → K1 b from fun b hb => by rw [← hK1]; exact .inl hb)
    rw [hK1] at HI2
    obtain ⟨n, hn⟩ : ∃ n, lines.length = n := ⟨_, rfl⟩
    have HN := Lib.hid hn
    rw [hn] at HRK
    have n62 : n ≤ 9223372036854775807 := by rw [← hn]; exact HQ2.out
    try simp only [hn]
    clear hK1 hn c91 c63 c2
    by_cases hz0 : n = 0
    · have HTM := Lib.hid (tellMarker_pro w2 HI2.out ⟨HOK.out.pl0, by have := HOK.out.mrg; have := HOK.out.mg; omega⟩ (by have := HOK.out.mrg; have := HOK.out.pl0; have := HOK.out.mg; omega) HOK.out.ls)
      have HST : Hid (lnK (settleY (offY y)) lines lines.length = YE) := Lib.hid (by rw [← HYE.out]; unfold lnK linesY; rw [if_pos (HN.out.trans hz0), List.take_length])
      have t0 : ((n : Int) == 0) = true := by simp; omega
      go_wp2_with fail
      refine HTM.out.mono ?_
      rintro e w3 ⟨rfl, h3, hk3⟩
      have HI3 := Lib.hid h3
      have HK3 := Lib.hid (HK2.out.trans (hk3.mono HKK.out))
      have HR3 := Lib.hid (HRK.out.keep fun a ha _ => World.cell?_of_block (hk3.block _ ha))
      have HO3 := Lib.hid HOK.out.settle
      have HM3 := Lib.hid ((settleY_mg (offY y)).trans HMG.out)
      obtain ⟨Y0, hY0⟩ : ∃ Y0, settleY (offY y) = Y0 := ⟨_, rfl⟩
      rw [hY0] at HI3 HO3 HST HM3
      obtain rfl : n = 0 := hz0
      clear h3 hk3 hY0
      obtain ⟨vh', vl', vk', vc', ve', vf', vo', vs', cs', c', h', h2'⟩ := HI3.out
      have c63 : w3.cell? ⟨M, 63, none⟩ = some (.int .i64 mg) := by rw [← HM3.out]; exact (h'.cell 63).trans h'.cel.mg
      have HE : Hid (Y0 = YE) := Lib.hid (by
        have e := HST.out
        have : lines = [] := List.eq_nil_of_length_eq_zero HN.out
        rw [this] at e
        exact e)
      clear h' h2'
      go_wp2_with fail
      refine (HBK.out _).mono ?_
      rintro e w4 ⟨vm, rfl, hom, hbm⟩
      obtain ⟨pm, cm, rfl⟩ := lenL hom
      have HI4 := Lib.hid (HI3.out.below hbm)
      have HK4 := Lib.hid (HK3.out.trans ((Kp.of hbm (fun b hb => HI3.out.lt b hb)).mono HKK.out))
      obtain ⟨m, hm⟩ : ∃ m, (blk mg).length = m := ⟨_, rfl⟩
      try simp only [hm]
      rw [HE.out] at HI4
      clear hom hbm hm c63
      go_wp2_with fail
      refine wp_loop_rounds 1 ?_
      rw [rounds_succ]
      go_wp2_with fail
      first | go_end0 | refine bodyPost_ret (results_none rfl _ _ _) rfl ?_
      exact ⟨rfl, (HI4.out.less HKK.out).noFl, HK4.out⟩
    · have HST : Hid (lnK (offY y) lines lines.length = YE) := Lib.hid (by rw [← HYE.out]; unfold lnK linesY; rw [if_neg (fun e => hz0 (HN.out.symm.trans e)), List.take_length])
      have t0 : ((n : Int) == 0) = false := by simp; omega
      have HI3 := Lib.hid HI2.out
      have HK3 := Lib.hid HK2.out
      have HR3 := Lib.hid HRK.out
      have HO3 := Lib.hid HOK.out
      have HM3 := Lib.hid (show (offY y).mg = mg from HMG.out)
      obtain ⟨Y0, hY0⟩ : ∃ Y0, offY y = Y0 := ⟨_, rfl⟩
      rw [hY0] at HI3 HO3 HST HM3
      have c63 : w2.cell? ⟨M, 63, none⟩ = some (.int .i64 mg) := by
        obtain ⟨vh', vl', vk', vc', ve', vf', vo', vs', cs', c', h', h2'⟩ := HI3.out
        rw [← HM3.out]
        exact (h'.cell 63).trans h'.cel.mg
      clear hY0 hz0
      go_wp2_with fail
      refine (HBK.out _).mono ?_
      rintro e w4 ⟨vm, rfl, hom, hbm⟩
      obtain ⟨pm, cm, rfl⟩ := lenL hom
      have HOM := Lib.hid hom
      have HI4 := Lib.hid (HI3.out.grow hbm)
      have HK4 := Lib.hid (HK3.out.trans ((Kp.of hbm (fun b hb => HI3.out.lt b hb)).mono HKK.out))
      obtain ⟨K2, hK2⟩ : ∃ K2 : Nat → Prop, (fun b => K1 b ∨ (w2.heap.size ≤ b ∧ b < w4.heap.size)) = K2 := ⟨_, rfl⟩
      have HKL := Lib.hid (show ∀ b, K b → K2 b from fun b hb => by rw [← hK2]; exact .inl (HKK.out b hb))
      have HRL := Lib.hid ((HR3.out.below (hbm)).imp (Q := K2) fun b hb h9 => by rw [← hK2]; exact .inl h9)
      have HRM := Lib.hid ((RdG.own hom rfl).imp (Q := K2) fun b hb h9 => by rw [← hK2]; exact .inr ⟨h9.2, hb⟩)
      rw [hK2] at HI4
      obtain ⟨m, hm⟩ : ∃ m, (blk mg).length = m := ⟨_, rfl⟩
      have HMM := Lib.hid hm
      have HMN := Lib.hid (show m = mg.toNat by rw [← hm]; simp [blk])
      rw [hm] at HOM HRM
      try simp only [hm]
      clear hom hbm hK2 hm c63
      go_wp2_with fail
      go_loopw [56] (fun i wr => ∃ (k : Nat), i = .int .i64 k ∧ k ≤ n ∧ Hid (LyI true B M K2 wd ch (lnK Y0 lines k) wr) ∧ Hid (Kp K2 w4 wr)) (fun i _ => n - (intOf i).toNat)
      case atStart => exact ⟨0, rfl, Nat.zero_le _, HI4, Lib.hid (Kp.refl _ _)⟩
      case round =>
        obtain ⟨k, rfl, hk, HL, HK⟩ := hrel
        by_cases hlt : k < n
        · have hkl : k < lines.length := by rw [HN.out]; exact hlt
          have k1 : (k : Int) < n := by omega
          have HLT := Lib.hid hlt
          obtain ⟨b, off, pz, cz, rfl, _, c0, q1, q2, hx1⟩ := (HRL.out.keep fun a ha _ => World.cell?_of_block (HK.out.block _ ha)).at_ hkl
          have hxl := HSM.out _ (List.getElem_mem hkl)
          have HSC := Lib.hid (lnK_succ Y0 lines hkl)
          obtain ⟨x, hx⟩ : ∃ x, lines[k] = x := ⟨_, rfl⟩
          rw [hx] at c0 q1 hx1 hxl HSC
          obtain ⟨xl, hxn⟩ : ∃ xl, x.length = xl := ⟨_, rfl⟩
          have HXN := Lib.hid hxn
          rw [hxn] at c0 q1 hx1 hxl
          have HX1 := Lib.hid hx1
          have hok := lnK_ok HO3.out lines k
          obtain ⟨yk, hyk⟩ : ∃ yk, lnK Y0 lines k = yk := ⟨_, rfl⟩
          rw [hyk] at hok HL HSC
          have HOKk := Lib.hid hok.1
          have HMGk := Lib.hid (show yk.mg = mg from hok.2.trans HM3.out)
          have HRE := Lib.hid (release_pro wr HL.out ⟨hok.1.pl0, by have := hok.1.mrg; have := hok.1.mg; omega⟩ (by have := hok.1.mrg; have := hok.1.pl0; have := hok.1.mg; omega))
          have HXL := Lib.hid hxl
          clear hx hxn hyk hok hkl hlt hx1 q1 q2 hxl
          go_wp2_with fail
          refine HRE.out.mono ?_
          rintro e w5 ⟨v5, rfl, ho5, hi5, hk5⟩
          obtain ⟨p5, c5, rfl⟩ := lenL ho5
          have HI5 := Lib.hid hi5
          have HK5 := Lib.hid (HK.out.trans hk5)
          have HR5 := Lib.hid ((RdG.own ho5 rfl).imp (Q := fun _ => True) fun _ _ _ => trivial)
          have hle := lead_le HOKk.out
          rw [HMGk.out, ← HMN.out] at hle
          obtain ⟨L5, hL5⟩ : ∃ L5, (leadY yk).length = L5 := ⟨_, rfl⟩
          have HL5 := Lib.hid hL5
          rw [hL5] at HR5 hle
          try simp only [hL5]
          obtain ⟨qq, jj, cc, hsl, hrq⟩ := drop_own HOM.out HMM.out.symm ((HRM.out.keep fun a ha _ => World.cell?_of_block (HK5.out.block _ ha)).imp (Q := fun _ => True) fun _ _ _ => trivial) L5 hle
          have hsc := fun W => (slice_from pm m cm L5 hle W).trans (by rw [hsl])
          obtain ⟨hq1, hq2, hq3⟩ : jj = ((blk mg).drop L5).length ∧ True ∧ True := by
            obtain ⟨_, _, e, _⟩ := hrq
            cases e
            exact ⟨rfl, trivial, trivial⟩
          have HXW := Lib.hid ((HX1.out.keep (w' := w5) fun a ha _ => World.cell?_of_block (hk5.block _ ha)).imp (Q := fun _ => True) fun _ _ _ => trivial)
          have HPS := Lib.hid (three_new w5 _ _ _ _ _ _ HR5.out hrq HXW.out trivial)
          have HI6 := Lib.hid (HI5.out.below (below_box w5 (.cells #[.slice p5 L5 c5, .slice qq jj cc, .slice pz xl cz] 34)))
          have HK6 := Lib.hid (HK5.out.alloc (fun b hb => Nat.lt_of_lt_of_le (HI4.out.lt b hb) HK5.out.size) (.cells #[.slice p5 L5 c5, .slice qq jj cc, .slice pz xl cz] 34))
          have HTL := Lib.hid (tell_pro _ _ _ HI6.out HPS.out (by
            have h1 := HL5.out
            have h2 := HXN.out
            have h3 := HXL.out
            have h4 : ((blk mg).drop L5).length ≤ m := by rw [List.length_drop, HMM.out]; omega
            have h5 : m ≤ 200 := by have := HMN.out; omega
            simp only [flat, List.flatten_cons, List.flatten_nil, List.length_append, List.length_nil]
            omega) HOKk.out.free.ls)
          clear ho5 hi5 hk5 hL5 hsl hrq hq1 hq2 hq3 hle c0
          go_wp2_with fail
          refine HTL.out.mono ?_
          rintro e w7 ⟨rfl, h7, hk7⟩
          have H7 := Lib.hid (show LyI true B M K2 wd ch (lnK Y0 lines (k + 1)) w7 by
            rw [HSC.out]
            have e : lineY yk x = tellY (freeY yk) (flat [leadY yk, (blk mg).drop L5, x]) := by
              unfold lineY flat
              rw [HMGk.out, HL5.out]
              simp
            rw [e]
            exact h7.less fun b hb => .inl hb)
          have HK7 := Lib.hid (HK6.out.trans (hk7.mono fun b hb => .inl hb))
          clear h7 hk7
          go_wp2_with fail
          go_roundw
          case measure => have := HLT.out; simp [intOf]; omega
          case rel => exact ⟨k + 1, by go_num, HLT.out, H7, HK7⟩
        · obtain rfl : k = n := by omega
          have hzk : ¬ (k : Int) < k := by omega
          have HE := HST.out
          rw [HN.out] at HE
          rw [HE] at HL
          clear hlt
          go_wp2_with fail
          first | go_end0 | refine bodyPost_ret (results_none rfl _ _ _) rfl ?_
          exact ⟨rfl, (HL.out.less HKL.out).noFl, HK4.out.trans (HK.out.mono HKL.out)⟩
end Go.Proofs.YtjohhahfpgfjdaaGreatDoor.Tb
end
