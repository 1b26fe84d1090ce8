/- Layer 13: the law LayoutAll, walked. -/
import Derived.Test.YtjohhahfpgfjdaaGreatDoorKQq
import Derived.Test.YtjohhahfpgfjdaaGreatDoorKQf
namespace Go.Proofs.YtjohhahfpgfjdaaGreatDoor.Tb
open Go.RowKit Go.Maps
open Go.Proofs.YtjohhahfpgfjdaaGreatDoor.Ly (Tabs2 Tabs2.below)
set_option linter.unusedVariables false
set_option linter.unusedSimpArgs false
theorem cells_new1 (w : World) (u : Value) (t : TypeId) (j : Nat) (x : Value) (h : [u][j]? = some x) : (w.alloc (.cells #[u] t)).cell? ((⟨w.heap.size, 0, none⟩ : Addr).add j) = some x := by
  have := heap_alloc_new w (.cells #[u] t)
  rw [Addr.add_lit, Nat.zero_add, cell_of_row _ _ _ _ _ _ this]
  rw [← Array.getElem?_toList]
  exact h
theorem cells_newC {w : World} {u : Value} {t : TypeId} {c : Nat} (hc : w.heap.size = c) (j : Nat) (x : Value) (h : [u][j]? = some x) : (w.alloc (.cells #[u] t)).cell? ((⟨c, 0, none⟩ : Addr).add j) = some x := by
  subst hc
  exact cells_new1 w u t j x h
theorem row_keep {b1 b2 : Nat} {w w' : World} {e1 e2 : TypeId} {s1 s2 n1 n2 : Nat} {v1 v2 : Value} {x1 x2 : List Value} (h1 : w.ownsRow b1 e1 s1 v1 n1 x1) (h2 : w.ownsRow b2 e2 s2 v2 n2 x2) (hne : e1 ≠ e2) (hg : w.grownBy w' v1.ownBlock) : w'.ownsRow b2 e2 s2 v2 n2 x2 :=
  own_stays h2 fun c hc => hg.block c (own_base h2 hc).2 fun e => own_ne h1 h2 hne e.symm hc
set_option maxRecDepth 100000 in
set_option maxHeartbeats 8000000 in
theorem all_walk (v0 : Value) (sh : List S6.Sty) (v1 : Value) (l : List Opr) (tp wd : Int) (W : World) (hT : Tabs2 W) (hs : S6.Sh W v0 sh ∧ S6.Fit sh) (hl : Ir.RdO (fun _ => True) W v1 l) (hb : l.length ≤ 1048576 ∧ Ir.sumT l ≤ 1048576 ∧ ∀ x ∈ l, x.w.length ≤ 1048576) :
    Calls Tryz.prog 5 #[v0, v1, .int .i64 tp, .int .i64 wd] W fun e W' => e = .returned (.bool true) ∧ Below W.heap.size W W' := by
  obtain ⟨iS, hiS, hS0, hS1, hS2⟩ := info_parts infoS
  obtain ⟨iI, hiI, hI0, hI1, hI2⟩ := info_parts infoI
  obtain ⟨iB, hiB, hB0, hB1, hB2⟩ := info_parts infoBo
  have HIS := Lib.hid hiS
  have HS0 := Lib.hid hS0
  have HS1 := Lib.hid hS1
  have HS2 := Lib.hid hS2
  have HII := Lib.hid hiI
  have HI0 := Lib.hid hI0
  have HI1 := Lib.hid hI1
  have HI2 := Lib.hid hI2
  have HIB := Lib.hid hiB
  have HB0 := Lib.hid hB0
  have HB1 := Lib.hid hB1
  have HB2i := Lib.hid hB2
  clear hiS hS0 hS1 hS2 hiI hI0 hI1 hI2 hiB hB0 hB1 hB2
  have HAW := Lib.hid (awake_law W hT.u hT.p)
  obtain ⟨hs, hf⟩ := hs
  obtain ⟨hb1, hb2, hb3⟩ := hb
  have HTW := Lib.hid (fun W2 (h2 : Below W.heap.size W W2) => Ir.twin_law l v1 W2 (hl.below h2) (by omega) (fun x hx => by have := hb3 x hx; omega))
  have HLY := Lib.hid (fun W2 (h2 : Below W.heap.size W W2) (v2 : Value) (B : Nat) (hr : Ir.RdO (B ≤ ·) W2 v2 l) => layout_pro sh l v0 v2 tp wd W2 (hs.below h2) hf hr (by unfold Ir.sizeOk; omega) (hT.u.below h2 (Nat.le_refl _)) (hT.p.below h2 (Nat.le_refl _)))
  have HFT := Lib.hid (fun W2 (h2 : Below W.heap.size W W2) => flat_law l v1 W2 (hl.below h2))
  have HBC := Lib.hid (fun W2 (h2 : Below W.heap.size W W2) (hp : PopsOk l) => braced_law l v1 W2 (hl.below h2) hp)
  have HLL := Lib.hid hl
  obtain ⟨ps, cps, rfl, q1, q2⟩ := hs.form
  obtain ⟨pa, cap, rfl, hc1, hc2⟩ := hl.form
  unfold maxLen at hc2
  obtain ⟨n, hn⟩ : ∃ n, l.length = n := ⟨_, rfl⟩
  have HN := Lib.hid hn
  rw [hn] at HTW HFT HBC HLL hc1 ⊢
  have hN62 : n ≤ 9223372036854775807 := by omega
  by_cases h3 : 3000 < n
  · have h3i : (3000 : Int) < n := by omega
    clear hs hl hf hT hb1 hb2 hb3 hn h3 HTW HLY HFT HBC HLL
    go_enter Tryz.func5, Tryz.ntmps5
    go_wp2_with fail
    refine HAW.out.mono ?_
    rintro e w1 ⟨rfl, hb⟩
    have HB := Lib.hid hb
    clear hb
    go_wp2_with fail
    go_ret
    exact ⟨rfl, HB.out⟩
  have h3i : ¬ (3000 : Int) < n := by omega
  obtain ⟨fb, hfb⟩ : ∃ fb, flatB l = fb := ⟨_, rfl⟩
  rw [hfb] at HFT
  have HX := Lib.hid (show fb = true → ∀ x ∈ l, x.k < 10 from fun e x hx => by
    rw [e] at hfb
    unfold flatB at hfb
    rw [List.all_eq_true] at hfb
    simpa using hfb x hx)
  clear hs hl hf hT hb1 hb2 hb3 hn hfb q1 q2 hc1 hc2
  go_enter Tryz.func5, Tryz.ntmps5
  go_wp2_with fail
  refine HAW.out.mono ?_
  rintro e w1 ⟨rfl, hb⟩
  have HB := Lib.hid hb
  have HFT1 := Lib.hid (HFT.out w1 hb)
  clear hb HFT
  go_wp2_with fail
  refine HFT1.out.mono ?_
  rintro e w2 ⟨rfl, hb2⟩
  have HB2 := Lib.hid (HB.out.trans (hb2.mono HB.out.size))
  clear hb2 HFT1
  cases fb with
  | false =>
    clear HTW HLY HBC HLL
    go_wp2_with fail
    go_ret
    exact ⟨rfl, HB2.out⟩
  | true =>
  have HTW1 := Lib.hid (HTW.out w2 HB2.out)
  clear HTW
  go_wp2_with fail
  refine HTW1.out.mono ?_
  rintro e w3 ⟨v2, ps2, rfl, ho2, hp2, hb2⟩
  have hB3 := HB2.out.trans (hb2.mono HB2.out.size)
  have HB3 := Lib.hid hB3
  have HLY2 := Lib.hid (HLY.out w3 hB3 v2 _ (twin_rd (w' := w3) ho2 hp2))
  obtain ⟨p2, c2, rfl⟩ := Ir.lenL ho2.row
  unfold LayIs at HLY2
  clear ho2 hb2 hB3 HLY
  go_wp2_with fail
  refine HLY2.out.mono ?_
  rintro e w4 ⟨vl, vr, vk, rfl, hD, hb3⟩
  have hB4 := HB3.out.trans (hb3.mono HB3.out.size)
  obtain ⟨z, hz⟩ : ∃ z, layE sh l tp wd = z := ⟨_, rfl⟩
  obtain ⟨d, hd⟩ : ∃ d, layL sh l tp wd = d := ⟨_, rfl⟩
  have HF := Lib.hid (show z = 0 → AllL d l from fun e => hd ▸ allL_of (hz.trans e) (HX.out (by simp)))
  rw [hd] at hD ⊢
  rw [hz]
  obtain ⟨pl, cl, rfl, -, -⟩ := hD.lines.form
  obtain ⟨pr, cr, rfl, -, -⟩ := hD.rects.form
  obtain ⟨pk, ck, rfl, -, -, -⟩ := hD.links
  unfold laidV
  obtain ⟨nl, hnl⟩ : ∃ nl, d.lines.length = nl := ⟨_, rfl⟩
  obtain ⟨nr, hnr⟩ : ∃ nr, d.rects.length = nr := ⟨_, rfl⟩
  obtain ⟨nk, hnk⟩ : ∃ nk, d.links.length = nk := ⟨_, rfl⟩
  have HNL := Lib.hid hnl
  have HNK := Lib.hid hnk
  rw [hnl, hnr, hnk] at hD ⊢
  have hA3 := below_box w4 (.cells #[.slice pl nl cl, .slice pr nr cr, .slice pk nk ck, .bool d.more] 29)
  have HXC := Lib.hid (laid_cells w4 (.slice pl nl cl) (.slice pr nr cr) (.slice pk nk ck) d.more)
  have HD := Lib.hid (hD.below hA3)
  have HB4 := Lib.hid (hB4.trans (hA3.mono hB4.size))
  obtain ⟨mo, hmo⟩ : ∃ mo, d.more = mo := ⟨_, rfl⟩
  have HMO := Lib.hid hmo
  rw [hmo] at HXC HD HB4 ⊢
  clear hD hb3 hB4 hA3 HLY2 hz hd hnl hnr hnk hmo HTW1
  have hx := HXC.out
  obtain ⟨d0, d1, d2, d3⟩ : (w4.alloc (.cells #[.slice pl nl cl, .slice pr nr cr, .slice pk nk ck, .bool mo] 29)).cell? ⟨w4.heap.size, 0, none⟩ = some (.slice pl nl cl) ∧ (w4.alloc (.cells #[.slice pl nl cl, .slice pr nr cr, .slice pk nk ck, .bool mo] 29)).cell? ⟨w4.heap.size, 1, none⟩ = some (.slice pr nr cr) ∧ (w4.alloc (.cells #[.slice pl nl cl, .slice pr nr cr, .slice pk nk ck, .bool mo] 29)).cell? ⟨w4.heap.size, 2, none⟩ = some (.slice pk nk ck) ∧ (w4.alloc (.cells #[.slice pl nl cl, .slice pr nr cr, .slice pk nk ck, .bool mo] 29)).cell? ⟨w4.heap.size, 3, none⟩ = some (.bool mo) := by
    refine ⟨?_, ?_, ?_, ?_⟩ <;> rw [cell_of_row _ _ _ _ _ _ hx] <;> rfl
  clear hx
  by_cases hz0 : ¬ z = 0
  · have hzb : (z != 0) = true := by simpa using hz0
    clear HLL HBC
    go_wp2_with fail
    go_ret
    exact ⟨rfl, HB4.out⟩
  have hz0' : z = 0 := by omega
  have hzb : (z != 0) = false := by simpa using hz0'
  have HFL := Lib.hid (HF.out hz0')
  clear hz0 hz0' HF HX
  cases mo with
  | true =>
    clear HLL HBC
    go_wp2_with fail
    go_ret
    exact ⟨rfl, HB4.out⟩
  | false =>
  have HBC1 := Lib.hid (HBC.out _ HB4.out HFL.out.pops)
  go_wp2_with fail
  obtain ⟨W5, hW5⟩ : ∃ W5, w4.alloc (.cells #[.slice pl nl cl, .slice pr nr cr, .slice pk nk ck, .bool false] 29) = W5 := ⟨_, rfl⟩
  obtain ⟨bx, hbb⟩ : ∃ bx, w4.heap.size = bx := ⟨_, rfl⟩
  rw [hW5, hbb] at HXC
  rw [hW5] at HD HB4 HBC1
  have hbl : bx < W5.heap.size := (Array.getElem?_eq_some_iff.1 HXC.out).1
  have HBX := Lib.hid (fun (W6 : World) (h6 : Below W5.heap.size W5 W6) => (show (W6.cell? ⟨bx, 0, none⟩ = some (.slice pl nl cl) ∧ W6.cell? ⟨bx, 1, none⟩ = some (.slice pr nr cr) ∧ W6.cell? ⟨bx, 2, none⟩ = some (.slice pk nk ck) ∧ W6.cell? ⟨bx, 3, none⟩ = some (.bool false)) from by
    have hx2 := (h6.block bx hbl).trans HXC.out
    refine ⟨?_, ?_, ?_, ?_⟩ <;> rw [cell_of_row _ _ _ _ _ _ hx2] <;> rfl))
  rw [hW5, hbb]
  clear d0 d1 d2 d3 HBC hbl hbb hW5 HXC
  refine HBC1.out.mono ?_
  rintro e w6 ⟨rfl, hb6⟩
  have HB6 := Lib.hid (show Below W5.heap.size W5 w6 from hb6)
  clear hb6 HBC1
  go_wp2_with fail
  have hB7 : Below w6.heap.size w6 (w6.alloc (.cells #[] 4)) := below_box w6 _
  have hR0 : (w6.alloc (.cells #[] 4)).ownsRow w6.heap.size 4 1 (.slice (some ⟨w6.heap.size, 0, none⟩) 0 0) 0 [] := ⟨rfl, .inr ⟨w6.heap.size, 0, #[], rfl, Nat.le_refl _, heap_alloc_new w6 _, Nat.le_refl _, by decide, rfl, rfl⟩⟩
  have HBS := Lib.hid HB6.out.size
  have HB57 := Lib.hid (HB6.out.trans (hB7.mono HB6.out.size))
  have HBS7 := Lib.hid hB7.size
  obtain ⟨W7, hW7⟩ : ∃ W7, w6.alloc (.cells #[] 4) = W7 := ⟨_, rfl⟩
  obtain ⟨B, hB⟩ : ∃ B, w6.heap.size = B := ⟨_, rfl⟩
  rw [hW7] at HB57 HBS7 hR0
  rw [hB] at HBS HBS7 hR0
  rw [hW7, hB]
  have HR0 := Lib.hid hR0
  clear hB7 hR0 hW7 hB HB6
  go_loopw [11, 12, 13, 14, 15, 56] (fun vt vk2 lk my vd i wr => ∃ (k : Nat) (a : Al) (ts : List ByteArray) (ks : List Int), i = .int .i64 k ∧ k ≤ n ∧ lk = .int .i64 a.link ∧ my = .int .i64 (a.many : Nat) ∧ Hid (alK l k = a) ∧ Hid (a.want.map (·.1) = ts ∧ a.want.map (·.2) = ks) ∧ Hid (Rws B wr vt vk2 vd ts ks a.deep) ∧ Hid (Below B W7 wr)) (fun _ _ _ _ _ i _ => n - (intOf i).toNat)
  case atStart => exact ⟨0, al0, [], [], rfl, Nat.zero_le _, rfl, rfl, Lib.hid rfl, Lib.hid ⟨rfl, rfl⟩, Lib.hid ⟨World.ownsRow_nil _ _ _ _, World.ownsRow_nil _ _ _ _, HR0.out⟩, Lib.hid ((Below.refl _ _).mono HBS7.out)⟩
  case round =>
    obtain ⟨k, a, ts, ks, rfl, hk, rfl, rfl, HK, HTK, HR, HBr⟩ := hrel
    have HBN := Lib.hid (Nat.le_trans HBS7.out HBr.out.size)
    have HB5r := Lib.hid (HB57.out.trans (HBr.out.mono HBS.out))
    have HBW := Lib.hid (HB4.out.trans (HB5r.out.mono HB4.out.size))
    by_cases hlt : k < n
    · have hkl : k < l.length := by rw [HN.out]; exact hlt
      obtain ⟨b, off, rfl, c0, c1, c2', wv, c3, h4⟩ := (HLL.out.below HBW.out).at_ hkl
      obtain ⟨p4, q4, rfl, -, -⟩ := h4.form
      have hks := alK_succ hkl
      have hpo := HFL.out.pops k hkl
      have hle := alK_len l k
      have hsum := HFL.out.sum
      have htsz : (l[k]'hkl).t.size ≤ Ir.sumT l := Ir.sumT_mem (List.getElem_mem hkl)
      have hde : (alRun al0 (l.take k)).deep.length = a.deep.length := by rw [← HK.out]; rfl
      rw [HK.out] at hks hle
      obtain ⟨x, hx⟩ : ∃ x, (l[k]'hkl) = x := ⟨_, rfl⟩
      rw [hx] at c0 c1 c2' c3 h4 hks hpo htsz
      rw [hde] at hpo
      obtain ⟨wn, hwn⟩ : ∃ wn, x.w.length = wn := ⟨_, rfl⟩
      rw [hwn] at c3
      obtain ⟨xk, xn, xt, xw⟩ := x
      obtain ⟨wa, lka, ma, da⟩ := a
      dsimp only at c0 c1 c2' c3 hks hpo htsz hle hde HR HTK
      have k1 : (k : Int) < n := by omega
      have HLT := Lib.hid hlt
      have m62 : ma + 1 ≤ 9223372036854775807 := by omega
      clear hx h4 hwn hlt hkl
      obtain ⟨wo, rfl⟩ : ∃ wo : World, wo = wr := ⟨_, rfl⟩
      have hA := fun z : Int => below_box wo (.cells #[.int .i64 z, .int .i64 xn, .string xt, .slice p4 wn q4] 53)
      have HRA' := Lib.hid (fun z : Int => HR.out.below (hA z))
      have HBA' := Lib.hid (fun z : Int => HBr.out.trans ((hA z).mono HBN.out))
      have HBAS' := Lib.hid (fun z : Int => Nat.le_trans HBN.out (hA z).size)
      clear hA
      by_cases g1 : xk = 1
      · subst g1
        have HRA := Lib.hid (HRA'.out 1)
        have HBA := Lib.hid (HBA'.out 1)
        have HBAS := Lib.hid (HBAS'.out 1)
        have HA1 := Lib.hid (show alK l (k + 1) = ⟨wa ++ alT xt lka (cells xt), lka, ma, da⟩ from hks.trans rfl)
        have HCL := Lib.hid (fun w => cells_ref xt w (by omega))
        have HLE := Lib.hid (show wa.length + xt.size ≤ 32768 by omega)
        clear hks hpo hle hsum htsz hde HRA' HBA' HBAS'
        go_wp2_with fail
        refine (HCL.out _).mono ?_
        rintro e w8 ⟨vc, rfl, hoc, hb8⟩
        have HR8 := Lib.hid (HRA.out.below hb8)
        have HB8 := Lib.hid (HBA.out.trans (hb8.mono HBAS.out))
        obtain ⟨pc, cc, rfl⟩ := Ir.lenL hoc
        obtain ⟨nc, hnc⟩ : ∃ nc, (cells xt).length = nc := ⟨_, rfl⟩
        have HNC := Lib.hid hnc
        have hncl := cells_len xt
        rw [hnc] at hoc hncl ⊢
        obtain ⟨cb, hcb⟩ : ∃ cb, (wo.alloc (.cells #[.int .i64 1, .int .i64 xn, .string xt, .slice p4 wn q4] 53)).heap.size = cb := ⟨_, rfl⟩
        rw [hcb] at hoc
        have HOC := Lib.hid hoc
        have HNL2 := Lib.hid hncl
        have n62' : nc ≤ 9223372036854775807 := by have := HLE.out; omega
        clear hoc hb8 hnc hcb HCL HRA HBA HBAS c0 c1 c2' c3 hncl
        go_wp2_with fail
        go_loopw [11, 12, 68] (fun vt vk2 i wl => ∃ (j : Nat) (ts2 : List ByteArray) (ks2 : List Int), i = .int .i64 j ∧ j ≤ nc ∧ Hid ((wa ++ alT xt lka ((cells xt).take j)).map (·.1) = ts2 ∧ (wa ++ alT xt lka ((cells xt).take j)).map (·.2) = ks2) ∧ Hid (Rws B wl vt vk2 u15 ts2 ks2 da) ∧ Hid (wl.ownsRow cb 57 3 (.slice pc nc cc) nc (celsV xt (cells xt))) ∧ Hid (Below B W7 wl)) (fun _ _ i _ => nc - (intOf i).toNat)
        case atStart => exact ⟨0, ts, ks, rfl, Nat.zero_le _, Lib.hid (by rw [List.take_zero, show alT xt lka [] = [] from rfl, List.append_nil]; exact HTK.out), HR8, HOC, HB8⟩
        case round =>
          obtain ⟨j, ts2, ks2, rfl, hj, HTS, HR2, HOC2, HB2'⟩ := hrel
          have HBN2 := Lib.hid (Nat.le_trans HBS7.out HB2'.out.size)
          by_cases hlj : j < nc
          · have hjc : j < (cells xt).length := by rw [HNC.out]; exact hlj
            obtain ⟨g, cap2, e, -, -⟩ := World.ownsRow.form HOC2.out (by omega)
            cases e
            have hat := alT_succ (t := xt) (lk := lka) hjc
            obtain ⟨y, hy⟩ : ∃ y, (cells xt)[j] = y := ⟨_, rfl⟩
            have hy2 : (cells xt)[j]? = some y := by rw [List.getElem?_eq_getElem hjc, hy]
            rw [hy] at hat
            have g0 : wr.cell? ⟨g, j * 3, none⟩ = some (.string (cutC xt y)) := (World.ownsRow.cellAt HOC2.out (j * 3) (by omega)).trans (celsV_get xt _ j y hy2).1
            have g1 := (World.ownsRow.cellAt HOC2.out (j * 3 + 1) (by omega)).trans (celsV_get xt _ j y hy2).2.1
            have g2 := (World.ownsRow.cellAt HOC2.out (j * 3 + 2) (by omega)).trans (celsV_get xt _ j y hy2).2.2
            obtain ⟨tx, htx⟩ : ∃ tx, cutC xt y = tx := ⟨_, rfl⟩
            rw [htx] at g0 hat
            obtain ⟨y1, ye, yw⟩ := y
            dsimp only at g0 g1 g2
            have hA2 := below_box wr (.cells #[.string tx, .int .i64 (y1 : Nat), .int .i64 yw] 57)
            have HR3 := Lib.hid (HR2.out.below hA2)
            have HOC3 := Lib.hid (own_below HOC2.out hA2)
            have HB3' := Lib.hid (HB2'.out.trans (hA2.mono HBN2.out))
            have HBN3 := Lib.hid (Nat.le_trans HBN2.out hA2.size)
            have k2 : (j : Int) < nc := by omega
            have HLJ := Lib.hid hlj
            have hlt2 : ts2.length ≤ 32768 ∧ ks2.length ≤ 32768 := by
              have e1 := HTS.out.1
              have e2 := HTS.out.2
              have h1 := alT_len xt lka ((cells xt).take j)
              have h2 := HLE.out
              have h3 := HNL2.out
              rw [List.length_take] at h1
              rw [← e1, ← e2, List.length_map, List.length_map, List.length_append]
              omega
            have HLT2 := Lib.hid hlt2
            obtain ⟨nb, hnb⟩ : ∃ nb, notB tx = nb := ⟨_, rfl⟩
            rw [hnb] at hat
            have HNB := Lib.hid hnb
            have z0 : (wr.alloc (.cells #[.string tx, .int .i64 (y1 : Nat), .int .i64 yw] 57)).cell? ⟨wr.heap.size, 0, none⟩ = some (.string tx) := by rw [cell_of_row _ _ _ _ _ _ (heap_alloc_new wr _)]; rfl
            clear hy hy2 htx hA2 hjc hlj hlt2 hnb
            cases nb with
            | false =>
              have hbl2 : tx.toList = [32] := by simpa [notB] using HNB.out
              have HAT := Lib.hid (show alT xt lka ((cells xt).take (j + 1)) = alT xt lka ((cells xt).take j) from by rw [hat]; simp)
              clear hat
              go_wp2_with fail
              go_roundw
              case measure => have := HLJ.out; simp [intOf]; omega
              case rel => exact ⟨j + 1, ts2, ks2, by go_num, HLJ.out, Lib.hid (by rw [HAT.out]; exact HTS.out), HR3, HOC3, HB3'⟩
            | true =>
              have hbl2 : ¬ tx.toList = [32] := by simpa [notB] using HNB.out
              have hbl3 : (tx.toList == [32]) = false := by rw [beq_eq_false_iff_ne]; exact hbl2
              have hbl4 : (tx.toList != [32]) = true := by rw [bne, hbl3]; rfl
              have HAT := Lib.hid (show alT xt lka ((cells xt).take (j + 1)) = alT xt lka ((cells xt).take j) ++ [(tx, lka)] from by rw [hat]; simp)
              have HR4 := Lib.hid (HR3.out.below (below_box _ (.cells #[.string tx] 9)))
              have HOC4 := Lib.hid (own_below HOC3.out (below_box _ (.cells #[.string tx] 9)))
              have HB4' := Lib.hid (HB3'.out.trans ((below_box _ (.cells #[.string tx] 9)).mono HBN3.out))
              have L1 := Lib.hid (show ts2.length + 1 ≤ maxLen by have := HLT2.out; unfold maxLen; omega)
              have L2 := Lib.hid (show (ts2.length + 1) * 16 ≤ 140737488355328 by have := HLT2.out; omega)
              have L3 := Lib.hid (Nat.le_trans HBS7.out HB4'.out.size)
              have L4 := Lib.hid (show ks2.length + 1 ≤ maxLen by have := HLT2.out; unfold maxLen; omega)
              have L5 := Lib.hid (show (ks2.length + 1) * 8 ≤ 140737488355328 by have := HLT2.out; omega)
              clear hat
              go_wp2_with (first
                | (at_builtin; go_loud (refine wpList_append_own _ rfl _ _ 48 rfl B 9 iS _ 1 16 Tryz.underlying48 HIS.out HS0.out HS1.out HS2.out rfl (by decide) _ _ _ rfl HR4.out.t _ 1 1 [.string tx] rfl rfl (cells_newC (by simp)) (fun u hu => by simp at hu; subst hu; rfl) L1.out L2.out L3.out ?_); intro v6 w9 hown6 hgrow6 _; have HR6 := Lib.hid (HR4.out.pushT hgrow6 hown6); have HOC6 := Lib.hid (row_keep HR4.out.t HOC4.out (by decide) hgrow6); have HB6' := Lib.hid (HB4'.out.grown hgrow6 (Nat.le_trans HBS7.out HB4'.out.size) (fun r e => (own_base HR4.out.t e).1)); have HR7 := Lib.hid (HR6.out.below (below_box _ (.cells #[.int .i64 lka] 3))); have HOC7 := Lib.hid (own_below HOC6.out (below_box _ (.cells #[.int .i64 lka] 3))); have HB7' := Lib.hid (HB6'.out.trans ((below_box _ (.cells #[.int .i64 lka] 3)).mono (Nat.le_trans HBS7.out HB6'.out.size))); clear hown6 hgrow6)
                | (at_builtin; go_loud (refine wpList_append_own _ rfl _ _ 49 rfl B 3 iI _ 1 8 Tryz.underlying49 HII.out HI0.out HI1.out HI2.out rfl (by decide) _ _ _ rfl HR7.out.k _ 1 1 [.int .i64 lka] rfl rfl (cells_newC (by simp)) (fun u hu => by simp at hu; subst hu; rfl) L4.out L5.out (Nat.le_trans HBS7.out HB7'.out.size) ?_); intro v7 w10 hown7 hgrow7 _; have HR8' := Lib.hid (HR7.out.pushK hgrow7 hown7); have HOC8 := Lib.hid (row_keep HR7.out.k HOC7.out (by decide) hgrow7); have HB8' := Lib.hid (HB7'.out.grown hgrow7 (Nat.le_trans HBS7.out HB7'.out.size) (fun r e => (own_base HR7.out.k e).1)); clear hown7 hgrow7))
              go_wp2_with fail
              go_roundw
              case measure => have := HLJ.out; simp [intOf]; omega
              case rel => exact ⟨j + 1, ts2 ++ [tx], ks2 ++ [lka], by go_num, HLJ.out, Lib.hid (by have h9 := HTS.out; rw [List.map_append, List.map_append] at h9; rw [HAT.out]; simp only [List.map_append, List.map_cons, List.map_nil, ← List.append_assoc]; exact ⟨by rw [h9.1], by rw [h9.2]⟩), HR8', HOC8, HB8'⟩
          · obtain rfl : j = nc := by omega
            have k2 : ¬ (j : Int) < j := by omega
            have HT2 := Lib.hid (show (wa ++ alT xt lka (cells xt)).map (·.1) = ts2 ∧ (wa ++ alT xt lka (cells xt)).map (·.2) = ks2 from by
              have h9 := HTS.out
              rw [show (cells xt).take j = cells xt by rw [← HNC.out, List.take_length]] at h9
              exact h9)
            clear hlj
            go_wp2_with fail
            go_roundw
            case measure => have := HLT.out; simp [intOf]; omega
            case rel => exact ⟨k + 1, _, ts2, ks2, by go_num, HLT.out, rfl, rfl, HA1, HT2, HR2, HB2'⟩
      have c62 : (xk == 1) = false := by simpa using g1
      by_cases g2 : xk = 2
      · subst g2
        have HRA := Lib.hid (HRA'.out 2)
        have HBA := Lib.hid (HBA'.out 2)
        have HBAS := Lib.hid (HBAS'.out 2)
        have HA1 := Lib.hid (show alK l (k + 1) = ⟨wa, lka, ma, da ++ [false]⟩ from hks.trans (by simp [alS]))
        have HR3 := Lib.hid (HRA.out.below (below_box _ (.cells #[.bool false] 4)))
        have HB3' := Lib.hid (HBA.out.trans ((below_box _ (.cells #[.bool false] 4)).mono HBAS.out))
        have HXB := Lib.hid (show ((wo.alloc (.cells #[.int .i64 2, .int .i64 xn, .string xt, .slice p4 wn q4] 53)).alloc (.cells #[.bool false] 4)).heap[wo.heap.size]? = some (.cells #[.int .i64 2, .int .i64 xn, .string xt, .slice p4 wn q4] 53 (0, 0)) from by rw [Below.heap_alloc _ _ _ (by simp)]; exact heap_alloc_new wo _)
        have L1 := Lib.hid (show da.length + 1 ≤ maxLen by unfold maxLen; omega)
        have L2 := Lib.hid (show (da.length + 1) * 1 ≤ 140737488355328 by omega)
        have L3 := Lib.hid HB3'.out.size
        have z0 : (wo.alloc (.cells #[.int .i64 2, .int .i64 xn, .string xt, .slice p4 wn q4] 53)).cell? ⟨wo.heap.size, 0, none⟩ = some (.int .i64 2) := by rw [cell_of_row _ _ _ _ _ _ (heap_alloc_new wo _)]; rfl
        clear hks hpo hle hsum htsz hde HRA' HBA' HBAS' hp2
        go_wp2_with (at_builtin; go_loud (refine wpList_append_own _ rfl _ _ 50 rfl B 4 iB _ 1 1 Tryz.underlying50 HIB.out HB0.out HB1.out HB2i.out rfl (by decide) _ _ _ rfl HR3.out.d _ 1 1 [.bool false] rfl rfl (cells_newC (by simp)) (fun u hu => by simp at hu; subst hu; rfl) L1.out L2.out (Nat.le_trans HBS7.out L3.out) ?_); intro v6 w9 hown6 hgrow6 _; have HR6 := Lib.hid (HR3.out.pushD hgrow6 hown6); have HB6' := Lib.hid (HB3'.out.grown hgrow6 (Nat.le_trans HBS7.out L3.out) (fun r e => (own_base HR3.out.d e).1)); go_loud (have z9 : w9.cell? ⟨wo.heap.size, 0, none⟩ = some (.int .i64 2) := by (rw [cell_of_row _ _ _ _ _ _ ((hgrow6.block wo.heap.size (by simp; omega) (fun e => Ir.own_notM HR3.out.d HXB.out (by decide) e.symm)).trans HXB.out)]; rfl)); clear hown6 hgrow6)
        go_wp2_with fail
        go_roundw
        case measure => have := HLT.out; simp [intOf]; omega
        case rel => exact ⟨k + 1, _, ts, ks, by go_num, HLT.out, rfl, by go_num, HA1, HTK, HR6, HB6'⟩
      by_cases g3 : xk = 3
      · subst g3
        have HRA := Lib.hid (HRA'.out 3)
        have HBA := Lib.hid (HBA'.out 3)
        have HBAS := Lib.hid (HBAS'.out 3)
        have HA1 := Lib.hid (show alK l (k + 1) = ⟨wa, ((ma + 1 : Nat) : Int), ma + 1, da ++ [true]⟩ from hks.trans (by simp [alS]))
        have HR3 := Lib.hid (HRA.out.below (below_box _ (.cells #[.bool true] 4)))
        have HB3' := Lib.hid (HBA.out.trans ((below_box _ (.cells #[.bool true] 4)).mono HBAS.out))
        have HXB := Lib.hid (show ((wo.alloc (.cells #[.int .i64 3, .int .i64 xn, .string xt, .slice p4 wn q4] 53)).alloc (.cells #[.bool true] 4)).heap[wo.heap.size]? = some (.cells #[.int .i64 3, .int .i64 xn, .string xt, .slice p4 wn q4] 53 (0, 0)) from by rw [Below.heap_alloc _ _ _ (by simp)]; exact heap_alloc_new wo _)
        have L1 := Lib.hid (show da.length + 1 ≤ maxLen by unfold maxLen; omega)
        have L2 := Lib.hid (show (da.length + 1) * 1 ≤ 140737488355328 by omega)
        have L3 := Lib.hid HB3'.out.size
        have z0 : (wo.alloc (.cells #[.int .i64 3, .int .i64 xn, .string xt, .slice p4 wn q4] 53)).cell? ⟨wo.heap.size, 0, none⟩ = some (.int .i64 3) := by rw [cell_of_row _ _ _ _ _ _ (heap_alloc_new wo _)]; rfl
        clear hks hpo hle hsum htsz hde HRA' HBA' HBAS' hp2
        go_wp2_with (at_builtin; go_loud (refine wpList_append_own _ rfl _ _ 50 rfl B 4 iB _ 1 1 Tryz.underlying50 HIB.out HB0.out HB1.out HB2i.out rfl (by decide) _ _ _ rfl HR3.out.d _ 1 1 [.bool true] rfl rfl (cells_newC (by simp)) (fun u hu => by simp at hu; subst hu; rfl) L1.out L2.out (Nat.le_trans HBS7.out L3.out) ?_); intro v6 w9 hown6 hgrow6 _; have HR6 := Lib.hid (HR3.out.pushD hgrow6 hown6); have HB6' := Lib.hid (HB3'.out.grown hgrow6 (Nat.le_trans HBS7.out L3.out) (fun r e => (own_base HR3.out.d e).1)); go_loud (have z9 : w9.cell? ⟨wo.heap.size, 0, none⟩ = some (.int .i64 3) := by (rw [cell_of_row _ _ _ _ _ _ ((hgrow6.block wo.heap.size (by simp; omega) (fun e => Ir.own_notM HR3.out.d HXB.out (by decide) e.symm)).trans HXB.out)]; rfl)); clear hown6 hgrow6)
        go_wp2_with fail
        go_roundw
        case measure => have := HLT.out; simp [intOf]; omega
        case rel => exact ⟨k + 1, _, ts, ks, by go_num, HLT.out, rfl, by go_num, HA1, HTK, HR6, HB6'⟩
      by_cases g4 : xk = 4
      · subst g4
        have HRA := Lib.hid (HRA'.out 4)
        have HBA := Lib.hid (HBA'.out 4)
        have HBAS := Lib.hid (HBAS'.out 4)
        have HA1 := Lib.hid (show alK l (k + 1) = ⟨wa, ((ma + 1 : Nat) : Int), ma + 1, da ++ [true]⟩ from hks.trans (by simp [alS]))
        have HR3 := Lib.hid (HRA.out.below (below_box _ (.cells #[.bool true] 4)))
        have HB3' := Lib.hid (HBA.out.trans ((below_box _ (.cells #[.bool true] 4)).mono HBAS.out))
        have HXB := Lib.hid (show ((wo.alloc (.cells #[.int .i64 4, .int .i64 xn, .string xt, .slice p4 wn q4] 53)).alloc (.cells #[.bool true] 4)).heap[wo.heap.size]? = some (.cells #[.int .i64 4, .int .i64 xn, .string xt, .slice p4 wn q4] 53 (0, 0)) from by rw [Below.heap_alloc _ _ _ (by simp)]; exact heap_alloc_new wo _)
        have L1 := Lib.hid (show da.length + 1 ≤ maxLen by unfold maxLen; omega)
        have L2 := Lib.hid (show (da.length + 1) * 1 ≤ 140737488355328 by omega)
        have L3 := Lib.hid HB3'.out.size
        have z0 : (wo.alloc (.cells #[.int .i64 4, .int .i64 xn, .string xt, .slice p4 wn q4] 53)).cell? ⟨wo.heap.size, 0, none⟩ = some (.int .i64 4) := by rw [cell_of_row _ _ _ _ _ _ (heap_alloc_new wo _)]; rfl
        clear hks hpo hle hsum htsz hde HRA' HBA' HBAS' hp2
        go_wp2_with (at_builtin; go_loud (refine wpList_append_own _ rfl _ _ 50 rfl B 4 iB _ 1 1 Tryz.underlying50 HIB.out HB0.out HB1.out HB2i.out rfl (by decide) _ _ _ rfl HR3.out.d _ 1 1 [.bool true] rfl rfl (cells_newC (by simp)) (fun u hu => by simp at hu; subst hu; rfl) L1.out L2.out (Nat.le_trans HBS7.out L3.out) ?_); intro v6 w9 hown6 hgrow6 _; have HR6 := Lib.hid (HR3.out.pushD hgrow6 hown6); have HB6' := Lib.hid (HB3'.out.grown hgrow6 (Nat.le_trans HBS7.out L3.out) (fun r e => (own_base HR3.out.d e).1)); go_loud (have z9 : w9.cell? ⟨wo.heap.size, 0, none⟩ = some (.int .i64 4) := by (rw [cell_of_row _ _ _ _ _ _ ((hgrow6.block wo.heap.size (by simp; omega) (fun e => Ir.own_notM HR3.out.d HXB.out (by decide) e.symm)).trans HXB.out)]; rfl)); clear hown6 hgrow6)
        go_wp2_with fail
        go_roundw
        case measure => have := HLT.out; simp [intOf]; omega
        case rel => exact ⟨k + 1, _, ts, ks, by go_num, HLT.out, rfl, by go_num, HA1, HTK, HR6, HB6'⟩
      by_cases g5 : xk = 5
      · subst g5
        have hp := hpo rfl
        obtain ⟨ds, xb, rfl⟩ : ∃ ds xb, da = ds ++ [xb] := ⟨da.dropLast, da.getLast (List.length_pos_iff.1 hp), (List.dropLast_concat_getLast _).symm⟩
        have HRA := Lib.hid (HRA'.out 5)
        have HBA := Lib.hid (HBA'.out 5)
        obtain ⟨g5, cap5, e, -, -⟩ := World.ownsRow.form HR.out.d (by simp)
        have e0 : (ds ++ [xb]).length = ds.length + 1 := by simp
        rw [e0] at e
        have hcap : ds.length + 1 ≤ cap5 := by
          have h9 := HR.out.d
          rw [e, e0] at h9
          rcases h9.2 with ⟨h8, _⟩ | ⟨_, _, _, h8, _, _, h7, _⟩
          · cases h8
          · cases h8; exact h7
        have g6 : wo.cell? ⟨g5, ds.length, none⟩ = some (.bool xb) := by
          have h9 := HR.out.d
          rw [e, e0] at h9
          exact (World.ownsRow.cellAt h9 ds.length (by omega)).trans (by simp [boosV])
        have g7 := ((below_box wo (.cells #[.int .i64 5, .int .i64 xn, .string xt, .slice p4 wn q4] 53)).cell (p := ⟨g5, ds.length, none⟩) (cellInL g6)).trans g6
        have HCUT := Lib.hid (show Rws B (wo.alloc (.cells #[.int .i64 5, .int .i64 xn, .string xt, .slice p4 wn q4] 53)) u11 u12 (.slice (some ⟨g5, 0, none⟩) ds.length cap5) ts ks ds from by
          have h9 := HRA.out
          rw [e] at h9
          exact h9.cutD)
        have HA1 := Lib.hid (show alK l (k + 1) = ⟨wa, if xb then 0 else lka, ma, ds⟩ from hks.trans (by simp [alS]))
        subst e
        obtain ⟨dn, hdn⟩ : ∃ dn, ds.length = dn := ⟨_, rfl⟩
        rw [hdn] at g6 g7 HCUT ⊢
        have hdl : dn ≤ 3000 := by
          have := hle.2.2
          simp at this
          omega
        have e1 : ((dn + 1 : Nat) : Int) - 1 = dn := by omega
        have e2 : wrap64 (((dn + 1 : Nat) : Int) - 1) = dn := by unfold wrap64; omega
        have e3 : ((dn : Nat) : Int) < ((dn + 1 : Nat) : Int) := by omega
        rw [hdn] at hcap
        have e4 : (dn : Int) ≤ cap5 := by omega
        have e5 : dn ≤ cap5 := by omega
        clear hks hpo hle hsum htsz hde hp hdn HRA' HBA' HBAS' HRA HR e0 hp2
        cases xb with
        | false =>
          go_wp2_with fail
          go_roundw
          case measure => have := HLT.out; simp [intOf]; omega
          case rel => exact ⟨k + 1, _, ts, ks, by go_num, HLT.out, rfl, rfl, HA1, HTK, HCUT, HBA⟩
        | true =>
          go_wp2_with fail
          go_roundw
          case measure => have := HLT.out; simp [intOf]; omega
          case rel => exact ⟨k + 1, _, ts, ks, by go_num, HLT.out, rfl, rfl, HA1, HTK, HCUT, HBA⟩
      have d2' : (xk == 2) = false := by simpa using g2
      have d3' : (xk == 3) = false := by simpa using g3
      have d4' : (xk == 4) = false := by simpa using g4
      have d5' : (xk == 5) = false := by simpa using g5
      have HRA := Lib.hid (HRA'.out xk)
      have HBA := Lib.hid (HBA'.out xk)
      have HA1 := Lib.hid (show alK l (k + 1) = ⟨wa, lka, ma, da⟩ from hks.trans (by simp [alS, g1, g2, g3, g4, g5]))
      clear hks hpo hle hsum htsz hde HRA' HBA' HBAS' g1 g2 g3 g4 g5
      go_wp2_with fail
      go_roundw
      case measure => have := HLT.out; simp [intOf]; omega
      case rel => exact ⟨k + 1, _, ts, ks, by go_num, HLT.out, rfl, rfl, HA1, HTK, HRA, HBA⟩
    · obtain rfl : k = n := by omega
      have k1 : ¬ (k : Int) < k := by omega
      have HAF := Lib.hid (show alRun al0 l = a from (alK_all (by rw [HN.out]; exact Nat.le_refl _)).symm.trans HK.out)
      have HWT := Lib.hid (show sk d.lines.flatten = a.want from (HFL.out.want HMO.out).trans (congrArg Al.want HAF.out))
      have hmany : nk = a.many := HNK.out.symm.trans (HFL.out.many.trans (congrArg Al.many HAF.out))
      obtain ⟨wn, hwl⟩ : ∃ wn, a.want.length = wn := ⟨_, rfl⟩
      have HWN := Lib.hid hwl
      have hwn2 : wn ≤ 16384 := by
        have h1 := (alK_len l k).1
        have h2 := HFL.out.sum
        rw [HK.out] at h1
        omega
      have hts : ts.length = wn := by rw [← HTK.out.1, List.length_map, hwl]
      have hks : ks.length = wn := by rw [← HTK.out.2, List.length_map, hwl]
      have hrt := HR.out.t
      have hrk := HR.out.k
      rw [hts] at hrt
      rw [hks] at hrk
      obtain ⟨p11, c11, rfl⟩ := Ir.lenL hrt
      obtain ⟨p12, c12, rfl⟩ := Ir.lenL hrk
      have HRT := Lib.hid hrt
      have HRK := Lib.hid hrk
      have HTE := Lib.hid (show ∀ (i : Nat) (t : ByteArray) (z : Int), a.want[i]? = some (t, z) → ts[i]? = some t ∧ ks[i]? = some z from fun i t z h => by
        rw [← HTK.out.1, ← HTK.out.2, List.getElem?_map, List.getElem?_map, h]
        exact ⟨rfl, rfl⟩)
      obtain ⟨ma, hma⟩ : ∃ ma, a.many = ma := ⟨_, rfl⟩
      rw [hma] at hmany ⊢
      subst hmany
      have hnl2 : nl ≤ 2000 := by have := HFL.out.num; rw [HNL.out] at this; exact this
      have HNT := Lib.hid HFL.out.ln
      have HWD := Lib.hid HFL.out.wd
      obtain ⟨d0, d1, d2, d3⟩ := HBX.out wr HB5r.out
      have wn62 : wn ≤ 9223372036854775807 := by omega
      have nl62 : nl ≤ 9223372036854775807 := by omega
      obtain ⟨wo, rfl⟩ : ∃ wo : World, wo = wr := ⟨_, rfl⟩
      clear hlt hwl hts hks hrt hrk hma hp2
      go_wp2_with fail
      clear d0 d1 d2 d3
      go_loopw [20, 118] (fun nv i w2 => ∃ (r q : Nat), i = .int .i64 r ∧ r ≤ nl ∧ nv = .int .i64 q ∧ Hid ((sk (d.lines.take r).flatten).length = q) ∧ Hid (Below wo.heap.size wo w2)) (fun _ i _ => nl - (intOf i).toNat)
      case atStart => exact ⟨0, 0, rfl, Nat.zero_le _, rfl, Lib.hid rfl, Lib.hid (Below.refl _ _)⟩
      case round =>
        obtain ⟨r, q, rfl, hr, rfl, HQ, HB2'⟩ := hrel
        have HB5s := Lib.hid (HB5r.out.trans (HB2'.out.mono HB5r.out.size))
        by_cases hlr : r < nl
        · have hrl : r < d.lines.length := by rw [HNL.out]; exact hlr
          obtain ⟨g, off3, pt, ct, hpl, -, e0, -, -, hrd⟩ := (HD.out.lines.below HB5s.out).at_ (by rw [HNL.out]; exact hlr)
          have hnt := HNT.out _ (List.getElem_mem hrl)
          have hwd := HWD.out _ (List.getElem_mem hrl)
          have hska := fun (j : Nat) (hj : j < d.lines[r].length) => sk_at HWT.out hrl hj
          have hsks := sks_take hrl
          rw [HQ.out] at hska hsks
          obtain ⟨x, hx⟩ : ∃ x, d.lines[r] = x := ⟨_, rfl⟩
          have hska2 : ∀ (j : Nat) (hj : j < x.length), sgn x[j] = true → a.want[q + (sk (x.take j)).length]? = some (x[j].t, x[j].lk) := by
            intro j hj hs
            have h9 := hska j (by rw [hx]; exact hj) (by simpa [hx] using hs)
            simpa [hx] using h9
          rw [hx] at e0 hrd hnt hwd hsks
          subst hpl
          have HRD := Lib.hid hrd
          have HNT2 := Lib.hid hnt
          have HSK := Lib.hid hska2
          have HSS := Lib.hid hsks
          obtain ⟨xl, hxl⟩ : ∃ xl, x.length = xl := ⟨_, rfl⟩
          have HXL := Lib.hid hxl
          rw [hxl] at e0 HRD hwd
          have k2 : (r : Int) < nl := by omega
          have xl62 : xl ≤ 9223372036854775807 := by omega
          have HLR := Lib.hid hlr
          obtain ⟨w6', rfl⟩ : ∃ w6' : World, w6' = wr := ⟨_, rfl⟩
          clear hrd hnt hska hska2 hsks hx hxl hrl hlr
          go_wp2_with fail
          clear e0
          go_loopw [20, 124] (fun nv i w2 => ∃ (j q2 : Nat), i = .int .i64 j ∧ j ≤ xl ∧ nv = .int .i64 q2 ∧ Hid (q + (sk (x.take j)).length = q2) ∧ Hid (Below w6'.heap.size w6' w2)) (fun _ i _ => xl - (intOf i).toNat)
          case atStart => exact ⟨0, q, rfl, Nat.zero_le _, rfl, Lib.hid rfl, Lib.hid (Below.refl _ _)⟩
          case round =>
            obtain ⟨j, q2, rfl, hj, rfl, HQ2, HB3'⟩ := hrel
            have HBo := Lib.hid (HB2'.out.trans (HB3'.out.mono HB2'.out.size))
            by_cases hlj : j < xl
            · have hjl : j < x.length := by rw [HXL.out]; exact hlj
              obtain ⟨g2, off2, hg2, -, y0, y1, y2, y3, y4⟩ := (HRD.out.below HB3'.out).at_ (by rw [HXL.out]; exact hlj)
              subst hg2
              have hntj := HNT2.out _ (List.getElem_mem hjl)
              have hsk := HSK.out j hjl
              have hst := sk_take hjl
              rw [HQ2.out] at hsk
              obtain ⟨⟨gt, gw, ga, gc, gk⟩, hxj⟩ : ∃ g, x[j] = g := ⟨_, rfl⟩
              rw [hxj] at y0 y1 y2 y3 y4 hntj hsk hst
              dsimp only at y0 y1 y2 y3 y4 hsk
              have hA := below_box wr (.cells #[.string gt, .int .i64 gw, .int .i64 ga, .int .i64 gc, .int .i64 gk] 44)
              have HBA := Lib.hid (HB3'.out.trans (hA.mono HB3'.out.size))
              have hx2 := heap_alloc_new wr (.cells #[.string gt, .int .i64 gw, .int .i64 ga, .int .i64 gc, .int .i64 gk] 44)
              have z0 : (wr.alloc (.cells #[.string gt, .int .i64 gw, .int .i64 ga, .int .i64 gc, .int .i64 gk] 44)).cell? ⟨wr.heap.size, 0, none⟩ = some (.string gt) := by rw [cell_of_row _ _ _ _ _ _ hx2]; rfl
              have z3 : (wr.alloc (.cells #[.string gt, .int .i64 gw, .int .i64 ga, .int .i64 gc, .int .i64 gk] 44)).cell? ⟨wr.heap.size, 4, none⟩ = some (.int .i64 gk) := by rw [cell_of_row _ _ _ _ _ _ hx2]; rfl
              have k3 : (j : Int) < xl := by omega
              have HLJ := Lib.hid hlj
              by_cases hb : gt.toList = [32]
              · have HST := Lib.hid (show (sk (x.take (j + 1))).length = (sk (x.take j)).length from by
                  rw [hst, show sgn (⟨gt, gw, ga, gc, gk⟩ : Gl) = false from by simp [sgn, noS, isB, hb]]
                  simp)
                clear hx2 hA hjl hlj hxj hntj hsk hst
                go_wp2_with fail
                go_roundw
                case measure => have := HLJ.out; simp [intOf]; omega
                case rel => exact ⟨j + 1, q2, by go_num, HLJ.out, rfl, Lib.hid (by rw [HST.out]; exact HQ2.out), HBA⟩
              · have hbf : (gt.toList == [32]) = false := by rw [beq_eq_false_iff_ne]; exact hb
                have hsg : sgn (⟨gt, gw, ga, gc, gk⟩ : Gl) = true := by
                  have h1 := hntj.1
                  have h2 := hntj.2
                  unfold sgn noS
                  rw [h1, h2]
                  unfold isB
                  rw [hbf]
                  rfl
                have hw := hsk hsg
                have HST := Lib.hid (show (sk (x.take (j + 1))).length = (sk (x.take j)).length + 1 from by rw [hst, if_pos hsg])
                obtain ⟨ht1, ht2⟩ := HTE.out _ _ _ hw
                have hq2 : q2 < wn := by
                  have h9 := (List.getElem?_eq_some_iff.1 hw).1
                  rw [HWN.out] at h9
                  exact h9
                have ho1 := own_below (own_below HRT.out HBo.out) hA
                have ho2 := own_below (own_below HRK.out HBo.out) hA
                obtain ⟨ga1, gb1, e1, -, -⟩ := World.ownsRow.form ho1 (by omega)
                obtain ⟨ga2, gb2, e2, -, -⟩ := World.ownsRow.form ho2 (by omega)
                cases e1
                cases e2
                have m1 := (World.ownsRow.cellAt ho1 q2 (by omega)).trans (show (strsV ts)[q2]? = some (.string gt) from by unfold strsV; rw [List.getElem?_map, ht1]; rfl)
                have m2 := (World.ownsRow.cellAt ho2 q2 (by omega)).trans (show (numsZ ks)[q2]? = some (.int .i64 gk) from by unfold numsZ; rw [List.getElem?_map, ht2]; rfl)
                have n1 : ¬ (wn : Int) ≤ q2 := by omega
                have n2 : (q2 : Int) < wn := by omega
                have n3 : (gt.toList != gt.toList) = false := by simp
                have n4 : (gk != gk) = false := by simp
                have q62 : q2 + 1 ≤ 9223372036854775807 := by omega
                have HQL := Lib.hid hq2
                clear hx2 hA hjl hlj hxj hntj hsk hst hw ht1 ht2 ho1 ho2 hsg
                go_upto_region 46 with fail
                go_quiet (fail)
                have HBQ := Lib.hid (dn_below HBA.out nq)
                go_wp2_with fail
                go_roundw
                case measure => have := HLJ.out; simp [intOf]; omega
                case rel => exact ⟨j + 1, q2 + 1, by go_num, HLJ.out, by go_num, Lib.hid (by rw [HST.out, ← Nat.add_assoc, HQ2.out]), HBQ⟩
            · obtain rfl : j = xl := by omega
              have k3 : ¬ (j : Int) < j := by omega
              have HQ3 := Lib.hid (show (sk (d.lines.take (r + 1)).flatten).length = q2 from by
                rw [HSS.out, ← HQ2.out, show x.take j = x by rw [← HXL.out, List.take_length]])
              clear hlj
              go_wp2_with fail
              go_roundw
              case measure => have := HLR.out; simp [intOf]; omega
              case rel => exact ⟨r + 1, q2, by go_num, HLR.out, rfl, HQ3, HBo⟩
        · obtain rfl : r = nl := by omega
          have k2 : ¬ (r : Int) < r := by omega
          have hqw : q = wn := by
            rw [← HQ.out, ← HWN.out, ← HWT.out, show d.lines.take r = d.lines by rw [← HNL.out, List.take_length]]
          subst hqw
          obtain ⟨d0, d1, d2, d3⟩ := HBX.out wr HB5s.out
          have HBF := Lib.hid (HBW.out.trans (HB2'.out.mono HBW.out.size))
          have n1 : ((q : Int) == q) = true := by simp
          have n2 : ((nk : Int) == nk) = true := by simp
          clear hlr
          go_wp2_with fail
          go_ret
          exact ⟨by simp, HBF.out⟩
end Go.Proofs.YtjohhahfpgfjdaaGreatDoor.Tb
