/- The texts that the laws of layout stand on, part 24. -/
import Derived.Test.YtjohhahfpgfjdaaGreatDoorK23
import Derived.Deep.CutRange
section
namespace Go.Proofs.YtjohhahfpgfjdaaGreatDoor.Tb
open Go.RowKit Go.Maps
set_option linter.unusedVariables false
set_option linter.unusedSimpArgs false
theorem S7 {bx g k : Nat} {ov x0 x1 x2 x3 x4 : Value} {W w w' : World} (h : w.cell? ⟨bx, 0, none⟩ = some x0 ∧ w.cell? ⟨bx, 1, none⟩ = some x1 ∧ w.cell? ⟨bx, 2, none⟩ = some x2 ∧ w.cell? ⟨bx, 3, none⟩ = some x3 ∧ w.cell? ⟨bx, 4, none⟩ = some x4 ∧ w.cell? ⟨g, k, none⟩ = some ov ∧ Below W.heap.size W w) (hb : Below w.heap.size w w') :
    w'.cell? ⟨bx, 0, none⟩ = some x0 ∧ w'.cell? ⟨bx, 1, none⟩ = some x1 ∧ w'.cell? ⟨bx, 2, none⟩ = some x2 ∧ w'.cell? ⟨bx, 3, none⟩ = some x3 ∧ w'.cell? ⟨bx, 4, none⟩ = some x4 ∧ w'.cell? ⟨g, k, none⟩ = some ov ∧ Below W.heap.size W w' := by
  obtain ⟨h0, h1, h2, h3, h4, h5, h6⟩ := h
  exact ⟨(hb.cell (p := ⟨bx, 0, none⟩) (cellInL h0)).trans h0, (hb.cell (p := ⟨bx, 1, none⟩) (cellInL h1)).trans h1, (hb.cell (p := ⟨bx, 2, none⟩) (cellInL h2)).trans h2, (hb.cell (p := ⟨bx, 3, none⟩) (cellInL h3)).trans h3, (hb.cell (p := ⟨bx, 4, none⟩) (cellInL h4)).trans h4, (hb.cell (p := ⟨g, k, none⟩) (cellInL h5)).trans h5, h6.trans (hb.mono h6.size)⟩
theorem S6.next {x bx g k : Nat} {ov : Value} {p : Gl} {W w w' : World} (h : GlIs w bx 0 p ∧ w.cell? ⟨g, k, none⟩ = some ov ∧ Below W.heap.size W w) (hb : Below w.heap.size w w') : GlIs w' bx 0 p ∧ w'.cell? ⟨g, k, none⟩ = some ov ∧ Below W.heap.size W w' :=
  ⟨h.1.keep fun a ha => hb.cell (by rw [ha]; exact cellInL h.1.1), (hb.cell (p := ⟨g, k, none⟩) (cellInL h.2.1)).trans h.2.1, h.2.2.trans (hb.mono h.2.2.size)⟩
theorem line_len {e : Int} {r : List Gl} (h : LineOk e r) : (r.length : Int) ≤ e := Int.le_trans (wid_ge r h.1).1 h.2
theorem line_small {e : Int} {r : List Gl} (h : LineOk e r) : SmallW r := fun g hg => by have := h.1 g hg; omega
theorem line_nn {e : Int} {r : List Gl} (h : LineOk e r) : 0 ≤ wid r := by have := (wid_ge r h.1).1; omega
set_option maxRecDepth 100000 in
set_option maxHeartbeats 4000000 in
theorem beside_pro {B : Nat} (rows lines : List (List Gl)) (vr vl : Value) (vs : List Value) (a e wide : Int) (w : World) (hR : OwnR B w vr rows vs) (hB : B ≤ w.heap.size) (hL : RdL (fun b => vr.ownBlock ≠ some b) w vl lines)
    (hr : ∀ r ∈ rows, LineOk e r) (hl : ∀ r ∈ lines, LineOk wide r) (he : 0 ≤ e) (hea : e ≤ a) (ha : a ≤ 200) (hw0 : 0 ≤ wide) (hw : wide ≤ 200) (hs : (rows.length + lines.length) * 24 ≤ 140737488355328) :
    Calls Tryz.prog 126 #[vr, vl, .int .i64 a] w (PutPost B (putB rows lines a) w) := by
  obtain ⟨pr, cr, rfl⟩ := lenL hR.row
  obtain ⟨pl, cl, rfl, hc1, hc2⟩ := hL.form
  unfold maxLen at hc2
  have HR := Lib.hid hR
  have HL := Lib.hid (hL.imp (Q := fun b => b < w.heap.size ∧ (Value.slice pr rows.length cr).ownBlock ≠ some b) fun b hb h => ⟨hb, h⟩)
  have HRO := Lib.hid hr
  have HLO := Lib.hid hl
  have HZ := Lib.hid (fun (k : Nat) (hk : 0 < k) (hle : (rows.length + k) * 24 ≤ 140737488355328) => hR.grow hB k hk hle)
  have HP0 := Lib.hid (putK_zero rows lines a)
  obtain ⟨n, hn⟩ : ∃ n, rows.length = n := ⟨_, rfl⟩
  obtain ⟨m, hm⟩ : ∃ m, lines.length = m := ⟨_, rfl⟩
  have HN := Lib.hid hn
  have HM := Lib.hid hm
  have HS := Lib.hid hs
  rw [hn] at HR HL HZ ⊢
  rw [hm] at hc1 HL ⊢
  have hn2 : n ≤ 5864062014806 := by omega
  have hm2 : m ≤ 5864062014806 := by omega
  clear hR hL hr hl hn hm hs hc1
  by_cases hlt : n < m
  · obtain ⟨d, hd⟩ : ∃ d : Nat, m - n = d := ⟨_, rfl⟩
    obtain ⟨v1, W, hr1, hO1, hg1, hnb1⟩ := HZ.out d (by omega) (by have := HS.out; have := HN.out; have := HM.out; omega) 25
    have hB1 : Below B w W := (Below.refl B w).grown hg1 hB (fun c hc => (own_base HR.out.row hc).1)
    have hL1 := HL.out.keep (w' := W) fun x hx hlt => World.cell?_of_block (hg1.block _ hlt (fun e => hx.2 e.symm))
    rw [show rows ++ List.replicate d [] = putK rows lines a 0 by rw [HP0.out, HN.out, HM.out, hd]] at hO1
    obtain ⟨p1, c1, rfl⟩ := lenL hO1.row
    have hl2 : (putK rows lines a 0).length = m := by rw [putK_len, HN.out, HM.out]; omega
    rw [hl2] at hr1 hO1 hnb1
    have hnew : ∀ b, b < w.heap.size ∧ (Value.slice pr n cr).ownBlock ≠ some b → b < w.heap.size ∧ (Value.slice p1 m c1).ownBlock ≠ some b := fun b hb => ⟨hb.1, fun e => by
      rcases hnb1 b e with h | h
      · exact hb.2 h
      · omega⟩
    have HR1 := Lib.hid hr1
    have HRW := Lib.hid hO1
    have HLW := Lib.hid (hL1.imp fun b _ hb => hnew b hb)
    have HBL := Lib.hid hB1
    have HBS := Lib.hid (show B ≤ W.heap.size from Nat.le_trans hB hB1.size)
    have HNN := Lib.hid (show max rows.length lines.length = m by rw [HN.out, HM.out]; omega)
    have e1 : wrap64 ((m : Int) - n) = (d : Int) := by rw [IntWalk.wrap64_in _ (by omega)]; omega
    have e2 : (m : Int) - n = (d : Int) := by omega
    have d0 : (0 : Int) < d := by omega
    clear hr1 hO1 hg1 hB1 hL1 hnew hlt hd hl2 hnb1
    go_enter Tryz.func126, Tryz.ntmps126
    go_wp2_with (at_builtin; go_loud (refine Lib.wpList_append_run _ rfl _ _ _ _ rfl _ _ rfl rfl _ _ HR1.out ?_))
    have hA2 := HBL.out
    refine (blank_pro ⟨⟨#[]⟩, 0, 0, 7, 0⟩ W).mono ?_
    unfold MakesG
    rw [blank_plain]
    rintro e w2 ⟨rfl, hb2⟩
    have hBx := below_box w2 (boxG plainG)
    have HX := Lib.hid (heap_alloc_new w2 (boxG plainG))
    have HRX := Lib.hid ((HRW.out.below hb2).below hBx)
    have HLX := Lib.hid ((HLW.out.below hb2).below hBx)
    have HBX := Lib.hid ((HBL.out.trans (hb2.mono HBS.out)).trans (hBx.mono (Nat.le_trans HBS.out hb2.size)))
    have HRB := Lib.hid (show ∀ c, (Value.slice p1 m c1).ownBlock = some c → c < w2.heap.size from fun c hc => Nat.lt_of_lt_of_le (own_base HRW.out.row (c := c) hc).2 hb2.size)
    obtain ⟨bx, hbx⟩ : ∃ bx, w2.heap.size = bx := ⟨_, rfl⟩
    have HBXE := Lib.hid hbx
    rw [hbx] at HX HRB
    unfold plainG at HX
    unfold boxG at HX HRX HLX HBX
    unfold plainG at HRX HLX HBX
    simp only [bl1] at HX HRX HLX HBX
    clear hb2 hBx hA2
    unfold glV plainG
    simp only [bl1]
    go_wp2_with fail
    clear hbx
    go_loopw [27] (fun i wr => ∃ (k : Nat) (us : List Value), i = .int .i64 k ∧ k ≤ m ∧ Hid (OwnR B wr (.slice p1 m c1) (putK rows lines a k) us) ∧ Hid (Below B w wr) ∧ Hid (wr.heap[bx]? = some (boxG plainG)) ∧ Hid (RdL (fun b => b < w.heap.size ∧ (Value.slice p1 m c1).ownBlock ≠ some b) wr (.slice pl m cl) lines)) (fun i _ => m - (intOf i).toNat)
    case atStart => exact ⟨0, _, rfl, Nat.zero_le _, HRX, HBX, HX, HLX⟩
    case round =>
      obtain ⟨k, us, rfl, hk, HRk, HBk, HXk, HLk⟩ := hrel
      by_cases hlt : k < m
      · have hkl : k < lines.length := by rw [HM.out]; exact hlt
        obtain ⟨b, off, q1, c2, rfl, _, lc, _, _, hx⟩ := HLk.out.at_ hkl
        have hkp : k < (putK rows lines a k).length := by rw [putK_len]; omega
        obtain ⟨g, cap, p2, q2, e1, hBg, hgw, hcap, rc, fz, hrr⟩ := HRk.out.at_ hkp
        have hplen : (putK rows lines a k).length = m := by rw [putK_len, HNN.out]
        rw [hplen] at e1
        cases e1
        have hpk : (putK rows lines a k)[k] = rows.getD k [] := by rw [putK_at]; unfold putAt; rw [if_neg (by omega)]
        have HST := Lib.hid (putK_set (rows := rows) (a := a) hkl)
        rw [hpk] at rc hrr
        have hok := lineOk_getD HRO.out he k
        have hlo := HLO.out _ (List.getElem_mem hkl)
        obtain ⟨r, hre⟩ : ∃ r, rows.getD k [] = r := ⟨_, rfl⟩
        obtain ⟨l, hle⟩ : ∃ l, lines[k] = l := ⟨_, rfl⟩
        rw [hre] at rc hrr hok HST
        rw [hle] at lc hx hlo HST
        have hwr1 := line_nn hok
        have hwr2 := hok.2
        have hrl := line_len hok
        have hll := line_len hlo
        have HSW := Lib.hid (line_small hok)
        have HR47 := Lib.hid (show r.length ≤ 140737488355328 by omega)
        obtain ⟨c, hcc⟩ : ∃ c : Nat, a - wid r = c := ⟨(a - wid r).toNat, by omega⟩
        have hct : (a - wid r).toNat = c := by omega
        have HFL := Lib.hid (show flat [r, List.replicate c plainG, l] = putLine r a l by unfold flat putLine; rw [hct]; simp)
        have HFN := Lib.hid (show (flat [r, List.replicate c plainG, l]).length * 48 ≤ 140737488355328 by
          have h0 : (flat [r, List.replicate c plainG, l]).length = r.length + (c + l.length) := by simp [flat]
          rw [h0]
          omega)
        have hc200 : c ≤ 1000 := by omega
        obtain ⟨d0, d1, d2, d3, d4⟩ : GlIs wr bx 0 plainG := by
          have h := HXk.out
          unfold boxG at h
          refine ⟨?_, ?_, ?_, ?_, ?_⟩ <;> rw [cell_of_row _ _ _ _ _ _ h] <;> rfl
        have HRR := Lib.hid hrr
        have HXL := Lib.hid hx
        have HWR := Lib.hid (show (wid r : Int) = wid r from rfl)
        obtain ⟨u, hu⟩ : ∃ u, wid r = u := ⟨_, rfl⟩
        have HU := Lib.hid hu
        rw [hu] at hwr1 hwr2 hcc
        obtain ⟨z1, hz1⟩ : ∃ z1, r.length = z1 := ⟨_, rfl⟩
        obtain ⟨z2, hz2⟩ : ∃ z2, l.length = z2 := ⟨_, rfl⟩
        have HZ1 := Lib.hid hz1
        have HZ2 := Lib.hid hz2
        rw [hz1] at rc HRR
        rw [hz2] at lc HXL
        have HS0 := Lib.hid (show wr.drew.cell? ⟨bx, 0, none⟩ = some (.string ⟨#[32]⟩) ∧ wr.drew.cell? ⟨bx, 1, none⟩ = some (.int .i64 1) ∧ wr.drew.cell? ⟨bx, 2, none⟩ = some (.int .i64 0) ∧ wr.drew.cell? ⟨bx, 3, none⟩ = some (.int .i64 7) ∧ wr.drew.cell? ⟨bx, 4, none⟩ = some (.int .i64 0) ∧ wr.drew.cell? ⟨g, k, none⟩ = some (.slice p2 z1 q2) ∧ Below wr.heap.size wr wr.drew from ⟨d0, d1, d2, d3, d4, rc, (Below.refl _ _).drew⟩)
        have sw : IntKind.i64.wrap (a - u) = (c : Int) := by rw [IntWalk.i64_in _ (by omega)]; exact hcc
        have k1 : (k : Int) < m := by omega
        have kN : k < m := by rw [← hplen]; exact hkp
        have k2 : (k : Int) < m := by omega
        have HLT := Lib.hid hlt
        have HKL := Lib.hid hkl
        have HGW := Lib.hid hgw
        have HBG := Lib.hid hBg
        have HCC := Lib.hid hcc
        have HRB2 := HRB.out g rfl
        have HKP := Lib.hid hkp
        have HPN := Lib.hid hplen
        clear hpk hok hlo hrl hll hct hrr hx hre hle hu hz1 hz2 hcc hkp hplen hcap hlt d0 d1 d2 d3 d4
        go_upto_region 8 with fail
        go_region_held3 (fun w' => w'.cell? ⟨bx, 0, none⟩ = some (.string ⟨#[32]⟩) ∧ w'.cell? ⟨bx, 1, none⟩ = some (.int .i64 1) ∧ w'.cell? ⟨bx, 2, none⟩ = some (.int .i64 0) ∧ w'.cell? ⟨bx, 3, none⟩ = some (.int .i64 7) ∧ w'.cell? ⟨bx, 4, none⟩ = some (.int .i64 0) ∧ w'.cell? ⟨g, k, none⟩ = some (.slice p2 z1 q2) ∧ Below wr.heap.size wr w')
          (first | exact HS0.out | exact S7 (by assumption) h8 | exact S7 (by assumption) (below_box _ _) | assumption)
          ((first
            | (go_at_call 152; refine (wide_pro r _ _ (HRR.out.below ((by assumption : _ ∧ _ ∧ _ ∧ _ ∧ _ ∧ _ ∧ Below wr.heap.size wr _).2.2.2.2.2.2)) HR47.out HSW.out).mono ?_; rw [HU.out]; rintro e w8 ⟨rfl, h8⟩)
            | (go_at_call 121; refine (repeat_pro (P := fun _ => True) plainG _ c _ (by first | exact (one_new (P := fun _ => True) wr.drew plainG trivial).below h8 | exact one_new (P := fun _ => True) _ plainG trivial) hc200).mono ?_; rintro e w9 ⟨v9, rfl, ho9, h8⟩)))
        all_goals
          have h9 : Below wr.heap.size wr w9 := (by assumption : _ ∧ _ ∧ _ ∧ _ ∧ _ ∧ _ ∧ Below wr.heap.size wr w9).2.2.2.2.2.2
          have rc9 : w9.cell? ⟨g, k, none⟩ = some (.slice p2 z1 q2) := (by assumption : _ ∧ _ ∧ _ ∧ _ ∧ _ ∧ _ ∧ Below wr.heap.size wr w9).2.2.2.2.2.1
          rw [List.length_replicate] at ho9
          obtain ⟨p9, c9, rfl⟩ := lenL ho9
          have hG9 := (RdG.own ho9 (by simp)).imp (Q := fun _ => True) fun _ _ _ => trivial
          have hA10 := below_box w9 (.cells #[.slice p2 z1 q2, .slice p9 c c9, .slice q1 z2 c2] 34)
          have HCN := Lib.hid (concat_pro [r, List.replicate c plainG, l] _ _ (three_new (P := fun _ => True) w9 (.slice p2 z1 q2) (.slice p9 c c9) (.slice q1 z2 c2) r (List.replicate c plainG) l ((HRR.out.below h9).imp fun _ _ _ => trivial) hG9 ((HXL.out.below h9).imp fun _ _ _ => trivial) trivial) HFN.out)
          rw [HFL.out] at HCN
          have H10 := Lib.hid (h9.trans (hA10.mono h9.size))
          clear h9 ho9 hG9 hA10
          go_wp2_with fail
          refine HCN.out.mono ?_
          rintro e w11 ⟨v11, rfl, ho11, hb11⟩
          have h11 := H10.out.trans (hb11.mono H10.out.size)
          have hR11 := HRk.out.below h11
          have hu11 : RdG (fun b => B ≤ b ∧ b ≠ g) w11 v11 (putLine r a l) := (RdG.own ho11 rfl).imp fun b _ hb => by
            have := H10.out.size
            have := HGW.out
            have := HBG.out
            exact ⟨by omega, by omega⟩
          obtain ⟨_, _, _, _, e11, _, _, _, rc11, fz11, _⟩ := hR11.at_ HKP.out
          rw [HPN.out] at e11
          cases e11
          have hset := OwnR.set hR11 HPN.out.symm HKP.out hu11
          rw [HST.out] at hset
          have HSET := Lib.hid hset
          have HB12 := Lib.hid ((HBk.out.trans (h11.mono (Nat.le_trans hB HBk.out.size))).setCell (p := ⟨g, k, none⟩) HBG.out v11)
          have HX12 := Lib.hid (show (w11.setCell ⟨g, k, none⟩ v11).heap[bx]? = some (boxG plainG) from (Below.heap_setCell _ _ _ _ (fun e => by have := HRB2; have e' : bx = g := e; omega)).trans ((h11.block bx (Array.getElem?_eq_some_iff.1 HXk.out).1).trans HXk.out))
          have HL12 := Lib.hid ((HLk.out.below h11).keep (w' := w11.setCell ⟨g, k, none⟩ v11) fun x hx _ => World.cell?_of_block (Below.heap_setCell _ _ _ _ (fun e => hx.2 (by rw [e]; rfl))))
          obtain ⟨p11, c11, rfl⟩ := lenL ho11
          obtain ⟨t11, ht11⟩ : ∃ t11, (putLine r a l).length = t11 := ⟨_, rfl⟩
          rw [ht11] at HSET HB12 HX12 HL12 ⊢
          clear hb11 h11 hR11 hu11 ho11 hset
          go_wp2_with fail
          go_roundw
          case measure => have := HLT.out; simp [intOf]; omega
          case rel => exact ⟨k + 1, _, by go_num, HLT.out, HSET, HB12, HX12, HL12⟩
      · obtain rfl : k = m := by omega
        have hzk : ¬ (k : Int) < k := by omega
        have HFIN := Lib.hid (show putK rows lines a k = putB rows lines a by unfold putB; rw [HM.out])
        clear hlt
        go_wp2_with fail
        go_ret
        exact ⟨_, us, rfl, by have h := HRk.out; rw [HFIN.out] at h; exact h, HBk.out⟩
  · have hm0 : m - n = 0 := by omega
    have hR0 := HR.out
    have hl2 : (putK rows lines a 0).length = n := by rw [putK_len, HN.out, HM.out]; omega
    rw [show rows = putK rows lines a 0 by rw [HP0.out, HN.out, HM.out, hm0]; simp] at hR0
    obtain ⟨p1, hp1⟩ : ∃ p1, p1 = pr := ⟨_, rfl⟩
    subst hp1
    obtain ⟨c1, hc1⟩ : ∃ c1, c1 = cr := ⟨_, rfl⟩
    subst hc1
    obtain ⟨W, hWw⟩ : ∃ W, W = w := ⟨_, rfl⟩
    subst hWw
    have HRW := Lib.hid hR0
    have HLW := HL
    have HBL := Lib.hid (Below.refl B W)
    have HBS := Lib.hid hB
    have HNN := Lib.hid (show max rows.length lines.length = n by rw [HN.out, HM.out]; omega)
    have e1 : wrap64 ((m : Int) - n) = (m : Int) - n := IntWalk.wrap64_in _ (by omega)
    have d0 : ¬ (0 : Int) < (m : Int) - n := by omega
    have mn : m ≤ n := by omega
    clear hR0 hlt hl2 hm0
    go_enter Tryz.func126, Tryz.ntmps126
    go_wp2_with fail
    have hA2 := HBL.out
    refine (blank_pro ⟨⟨#[]⟩, 0, 0, 7, 0⟩ W).mono ?_
    unfold MakesG
    rw [blank_plain]
    rintro e w2 ⟨rfl, hb2⟩
    have hBx := below_box w2 (boxG plainG)
    have HX := Lib.hid (heap_alloc_new w2 (boxG plainG))
    have HRX := Lib.hid ((HRW.out.below hb2).below hBx)
    have HLX := Lib.hid ((HLW.out.below hb2).below hBx)
    have HBX := Lib.hid ((HBL.out.trans (hb2.mono HBS.out)).trans (hBx.mono (Nat.le_trans HBS.out hb2.size)))
    have HRB := Lib.hid (show ∀ c, (Value.slice p1 n c1).ownBlock = some c → c < w2.heap.size from fun c hc => Nat.lt_of_lt_of_le (own_base HRW.out.row (c := c) hc).2 hb2.size)
    obtain ⟨bx, hbx⟩ : ∃ bx, w2.heap.size = bx := ⟨_, rfl⟩
    have HBXE := Lib.hid hbx
    rw [hbx] at HX HRB
    unfold plainG at HX
    unfold boxG at HX HRX HLX HBX
    unfold plainG at HRX HLX HBX
    simp only [bl1] at HX HRX HLX HBX
    clear hb2 hBx hA2
    unfold glV plainG
    simp only [bl1]
    go_wp2_with fail
    clear hbx
    go_loopw [27] (fun i wr => ∃ (k : Nat) (us : List Value), i = .int .i64 k ∧ k ≤ m ∧ Hid (OwnR B wr (.slice p1 n c1) (putK rows lines a k) us) ∧ Hid (Below B W wr) ∧ Hid (wr.heap[bx]? = some (boxG plainG)) ∧ Hid (RdL (fun b => b < W.heap.size ∧ (Value.slice p1 n c1).ownBlock ≠ some b) wr (.slice pl m cl) lines)) (fun i _ => m - (intOf i).toNat)
    case atStart => exact ⟨0, _, rfl, Nat.zero_le _, HRX, HBX, HX, HLX⟩
    case round =>
      obtain ⟨k, us, rfl, hk, HRk, HBk, HXk, HLk⟩ := hrel
      by_cases hlt : k < m
      · have hkl : k < lines.length := by rw [HM.out]; exact hlt
        obtain ⟨b, off, q1, c2, rfl, _, lc, _, _, hx⟩ := HLk.out.at_ hkl
        have hkp : k < (putK rows lines a k).length := by rw [putK_len]; omega
        obtain ⟨g, cap, p2, q2, e1, hBg, hgw, hcap, rc, fz, hrr⟩ := HRk.out.at_ hkp
        have hplen : (putK rows lines a k).length = n := by rw [putK_len, HNN.out]
        rw [hplen] at e1
        cases e1
        have hpk : (putK rows lines a k)[k] = rows.getD k [] := by rw [putK_at]; unfold putAt; rw [if_neg (by omega)]
        have HST := Lib.hid (putK_set (rows := rows) (a := a) hkl)
        rw [hpk] at rc hrr
        have hok := lineOk_getD HRO.out he k
        have hlo := HLO.out _ (List.getElem_mem hkl)
        obtain ⟨r, hre⟩ : ∃ r, rows.getD k [] = r := ⟨_, rfl⟩
        obtain ⟨l, hle⟩ : ∃ l, lines[k] = l := ⟨_, rfl⟩
        rw [hre] at rc hrr hok HST
        rw [hle] at lc hx hlo HST
        have hwr1 := line_nn hok
        have hwr2 := hok.2
        have hrl := line_len hok
        have hll := line_len hlo
        have HSW := Lib.hid (line_small hok)
        have HR47 := Lib.hid (show r.length ≤ 140737488355328 by omega)
        obtain ⟨c, hcc⟩ : ∃ c : Nat, a - wid r = c := ⟨(a - wid r).toNat, by omega⟩
        have hct : (a - wid r).toNat = c := by omega
        have HFL := Lib.hid (show flat [r, List.replicate c plainG, l] = putLine r a l by unfold flat putLine; rw [hct]; simp)
        have HFN := Lib.hid (show (flat [r, List.replicate c plainG, l]).length * 48 ≤ 140737488355328 by
          have h0 : (flat [r, List.replicate c plainG, l]).length = r.length + (c + l.length) := by simp [flat]
          rw [h0]
          omega)
        have hc200 : c ≤ 1000 := by omega
        obtain ⟨d0, d1, d2, d3, d4⟩ : GlIs wr bx 0 plainG := by
          have h := HXk.out
          unfold boxG at h
          refine ⟨?_, ?_, ?_, ?_, ?_⟩ <;> rw [cell_of_row _ _ _ _ _ _ h] <;> rfl
        have HRR := Lib.hid hrr
        have HXL := Lib.hid hx
        have HWR := Lib.hid (show (wid r : Int) = wid r from rfl)
        obtain ⟨u, hu⟩ : ∃ u, wid r = u := ⟨_, rfl⟩
        have HU := Lib.hid hu
        rw [hu] at hwr1 hwr2 hcc
        obtain ⟨z1, hz1⟩ : ∃ z1, r.length = z1 := ⟨_, rfl⟩
        obtain ⟨z2, hz2⟩ : ∃ z2, l.length = z2 := ⟨_, rfl⟩
        have HZ1 := Lib.hid hz1
        have HZ2 := Lib.hid hz2
        rw [hz1] at rc HRR
        rw [hz2] at lc HXL
        have HS0 := Lib.hid (show wr.drew.cell? ⟨bx, 0, none⟩ = some (.string ⟨#[32]⟩) ∧ wr.drew.cell? ⟨bx, 1, none⟩ = some (.int .i64 1) ∧ wr.drew.cell? ⟨bx, 2, none⟩ = some (.int .i64 0) ∧ wr.drew.cell? ⟨bx, 3, none⟩ = some (.int .i64 7) ∧ wr.drew.cell? ⟨bx, 4, none⟩ = some (.int .i64 0) ∧ wr.drew.cell? ⟨g, k, none⟩ = some (.slice p2 z1 q2) ∧ Below wr.heap.size wr wr.drew from ⟨d0, d1, d2, d3, d4, rc, (Below.refl _ _).drew⟩)
        have sw : IntKind.i64.wrap (a - u) = (c : Int) := by rw [IntWalk.i64_in _ (by omega)]; exact hcc
        have k1 : (k : Int) < m := by omega
        have kN : k < n := by rw [← hplen]; exact hkp
        have k2 : (k : Int) < n := by omega
        have HLT := Lib.hid hlt
        have HKL := Lib.hid hkl
        have HGW := Lib.hid hgw
        have HBG := Lib.hid hBg
        have HCC := Lib.hid hcc
        have HRB2 := HRB.out g rfl
        have HKP := Lib.hid hkp
        have HPN := Lib.hid hplen
        clear hpk hok hlo hrl hll hct hrr hx hre hle hu hz1 hz2 hcc hkp hplen hcap hlt d0 d1 d2 d3 d4
        go_upto_region 8 with fail
        go_region_held3 (fun w' => w'.cell? ⟨bx, 0, none⟩ = some (.string ⟨#[32]⟩) ∧ w'.cell? ⟨bx, 1, none⟩ = some (.int .i64 1) ∧ w'.cell? ⟨bx, 2, none⟩ = some (.int .i64 0) ∧ w'.cell? ⟨bx, 3, none⟩ = some (.int .i64 7) ∧ w'.cell? ⟨bx, 4, none⟩ = some (.int .i64 0) ∧ w'.cell? ⟨g, k, none⟩ = some (.slice p2 z1 q2) ∧ Below wr.heap.size wr w')
          (first | exact HS0.out | exact S7 (by assumption) h8 | exact S7 (by assumption) (below_box _ _) | assumption)
          ((first
            | (go_at_call 152; refine (wide_pro r _ _ (HRR.out.below ((by assumption : _ ∧ _ ∧ _ ∧ _ ∧ _ ∧ _ ∧ Below wr.heap.size wr _).2.2.2.2.2.2)) HR47.out HSW.out).mono ?_; rw [HU.out]; rintro e w8 ⟨rfl, h8⟩)
            | (go_at_call 121; refine (repeat_pro (P := fun _ => True) plainG _ c _ (by first | exact (one_new (P := fun _ => True) wr.drew plainG trivial).below h8 | exact one_new (P := fun _ => True) _ plainG trivial) hc200).mono ?_; rintro e w9 ⟨v9, rfl, ho9, h8⟩)))
        all_goals
          have h9 : Below wr.heap.size wr w9 := (by assumption : _ ∧ _ ∧ _ ∧ _ ∧ _ ∧ _ ∧ Below wr.heap.size wr w9).2.2.2.2.2.2
          have rc9 : w9.cell? ⟨g, k, none⟩ = some (.slice p2 z1 q2) := (by assumption : _ ∧ _ ∧ _ ∧ _ ∧ _ ∧ _ ∧ Below wr.heap.size wr w9).2.2.2.2.2.1
          rw [List.length_replicate] at ho9
          obtain ⟨p9, c9, rfl⟩ := lenL ho9
          have hG9 := (RdG.own ho9 (by simp)).imp (Q := fun _ => True) fun _ _ _ => trivial
          have hA10 := below_box w9 (.cells #[.slice p2 z1 q2, .slice p9 c c9, .slice q1 z2 c2] 34)
          have HCN := Lib.hid (concat_pro [r, List.replicate c plainG, l] _ _ (three_new (P := fun _ => True) w9 (.slice p2 z1 q2) (.slice p9 c c9) (.slice q1 z2 c2) r (List.replicate c plainG) l ((HRR.out.below h9).imp fun _ _ _ => trivial) hG9 ((HXL.out.below h9).imp fun _ _ _ => trivial) trivial) HFN.out)
          rw [HFL.out] at HCN
          have H10 := Lib.hid (h9.trans (hA10.mono h9.size))
          clear h9 ho9 hG9 hA10
          go_wp2_with fail
          refine HCN.out.mono ?_
          rintro e w11 ⟨v11, rfl, ho11, hb11⟩
          have h11 := H10.out.trans (hb11.mono H10.out.size)
          have hR11 := HRk.out.below h11
          have hu11 : RdG (fun b => B ≤ b ∧ b ≠ g) w11 v11 (putLine r a l) := (RdG.own ho11 rfl).imp fun b _ hb => by
            have := H10.out.size
            have := HGW.out
            have := HBG.out
            exact ⟨by omega, by omega⟩
          obtain ⟨_, _, _, _, e11, _, _, _, rc11, fz11, _⟩ := hR11.at_ HKP.out
          rw [HPN.out] at e11
          cases e11
          have hset := OwnR.set hR11 HPN.out.symm HKP.out hu11
          rw [HST.out] at hset
          have HSET := Lib.hid hset
          have HB12 := Lib.hid ((HBk.out.trans (h11.mono (Nat.le_trans hB HBk.out.size))).setCell (p := ⟨g, k, none⟩) HBG.out v11)
          have HX12 := Lib.hid (show (w11.setCell ⟨g, k, none⟩ v11).heap[bx]? = some (boxG plainG) from (Below.heap_setCell _ _ _ _ (fun e => by have := HRB2; have e' : bx = g := e; omega)).trans ((h11.block bx (Array.getElem?_eq_some_iff.1 HXk.out).1).trans HXk.out))
          have HL12 := Lib.hid ((HLk.out.below h11).keep (w' := w11.setCell ⟨g, k, none⟩ v11) fun x hx _ => World.cell?_of_block (Below.heap_setCell _ _ _ _ (fun e => hx.2 (by rw [e]; rfl))))
          obtain ⟨p11, c11, rfl⟩ := lenL ho11
          obtain ⟨t11, ht11⟩ : ∃ t11, (putLine r a l).length = t11 := ⟨_, rfl⟩
          rw [ht11] at HSET HB12 HX12 HL12 ⊢
          clear hb11 h11 hR11 hu11 ho11 hset
          go_wp2_with fail
          go_roundw
          case measure => have := HLT.out; simp [intOf]; omega
          case rel => exact ⟨k + 1, _, by go_num, HLT.out, HSET, HB12, HX12, HL12⟩
      · obtain rfl : k = m := by omega
        have hzk : ¬ (k : Int) < k := by omega
        have HFIN := Lib.hid (show putK rows lines a k = putB rows lines a by unfold putB; rw [HM.out])
        clear hlt
        go_wp2_with fail
        go_ret
        exact ⟨_, us, rfl, by have h := HRk.out; rw [HFIN.out] at h; exact h, HBk.out⟩

end Go.Proofs.YtjohhahfpgfjdaaGreatDoor.Tb
end
