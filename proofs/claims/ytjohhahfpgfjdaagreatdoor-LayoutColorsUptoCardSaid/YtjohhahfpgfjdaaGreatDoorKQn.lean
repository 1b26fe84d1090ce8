/- Layer 13: the law LayoutColors. -/
import Derived.Test.YtjohhahfpgfjdaaGreatDoorKQf
import Derived.Test.YtjohhahfpgfjdaaGreatDoorKQk
import Derived.Test.YtjohhahfpgfjdaaGreatDoorKQo
import Derived.Test.YtjohhahfpgfjdaaGreatDoorKYm
import Derived.BigRegion
import Derived.BigGuard
namespace Go.Proofs.YtjohhahfpgfjdaaGreatDoor.Tb
open Go.RowKit Go.Maps
open Go.Proofs.YtjohhahfpgfjdaaGreatDoor.Ly (Tabs2 Tabs2.below)
open Go.Proofs.YtjohhahfpgfjdaaGreatDoor.S6 (Chs othS othL)
set_option linter.unusedVariables false
set_option linter.unusedSimpArgs false
theorem cells_newS (w : World) (cs : Array Value) (t : TypeId) (j : Nat) (u : Value) (h : cs.toList[j]? = some u) : (w.alloc (.cells cs t)).cell? ((⟨w.heap.size, 0, none⟩ : Addr).add j) = some u := by
  rw [Addr.add_lit, Nat.zero_add, cell_of_row _ _ _ _ _ _ (heap_alloc_new w _)]
  rw [← Array.getElem?_toList]
  exact h
theorem cells_newC5 {w : World} {cs : Array Value} {t : TypeId} {c : Nat} (hc : w.heap.size = c) (j : Nat) (u : Value) (h : cs.toList[j]? = some u) : (w.alloc (.cells cs t)).cell? ((⟨c, 0, none⟩ : Addr).add j) = some u := by
  subst hc
  exact cells_newS w cs t j u h
theorem below_d1 (w : World) (o : Obj) : Below w.heap.size w (w.alloc o).drew := ((Below.refl _ _).alloc (Nat.le_refl _) _).drew
theorem below_d2 (w : World) (o o' : Obj) : Below w.heap.size w ((w.alloc o).alloc o').drew := (((Below.refl _ _).alloc (Nat.le_refl _) _).alloc (by simp) _).drew
/-- The law's loop over the sheet: a sheet of its own. -/
theorem er_at {a b : List Gl} (h : a.map er = b.map er) {j : Nat} (ha : j < a.length) (hb : j < b.length) : a[j].t = b[j].t ∧ a[j].wd = b[j].wd ∧ a[j].lk = b[j].lk := by
  have e : (a.map er)[j]? = (b.map er)[j]? := by rw [h]
  rw [List.getElem?_map, List.getElem?_map, List.getElem?_eq_getElem ha, List.getElem?_eq_getElem hb] at e
  simp only [Option.map_some, Option.some.injEq, er, Gl.mk.injEq] at e
  exact ⟨e.1, e.2.1, e.2.2.2.2⟩
theorem ers_at {a b : List (List Gl)} (h : a.map (List.map er) = b.map (List.map er)) {j : Nat} (ha : j < a.length) (hb : j < b.length) : a[j].map er = b[j].map er := by
  have e : (a.map (List.map er))[j]? = (b.map (List.map er))[j]? := by rw [h]
  rw [List.getElem?_map, List.getElem?_map, List.getElem?_eq_getElem ha, List.getElem?_eq_getElem hb] at e
  simpa using e
theorem row_same {a b : List Gl} (h : a.map er = b.map er) : a.length = b.length := by have := congrArg List.length h; simpa using this
set_option maxRecDepth 100000 in
set_option maxHeartbeats 8000000 in
theorem colors_walk (v0 : Value) (sh : List S6.Sty) (v1 : Value) (l : List Opr) (tp wd : Int) (v4 : Value) (cs : List S6.Chg) (W : World) (hT : Tabs2 W) (hs : S6.Sh W v0 sh ∧ S6.Fit sh) (hss : sh.length ≤ 1048576) (hl : Ir.RdO (fun _ => True) W v1 l) (hb : l.length ≤ 1048576 ∧ Ir.sumT l ≤ 1048576 ∧ ∀ x ∈ l, x.w.length ≤ 1048576)
    (hc : Chs W v4 cs ∧ ∀ c ∈ cs, S6.In64 c.on ∧ S6.In64 c.off ∧ S6.In64 c.col) :
    Calls Tryz.prog 7 #[v0, v1, .int .i64 tp, .int .i64 wd, v4] W fun e W' => e = .returned (.bool true) ∧ Below W.heap.size W W' := by
  obtain ⟨i0, hi0, hz0, hz1, hz2⟩ := info_parts S6.infoSty
  have HAW := Lib.hid (awake_law W hT.u hT.p)
  obtain ⟨hs, hf⟩ := hs
  obtain ⟨hc, hcf⟩ := hc
  obtain ⟨hb1, hb2, hb3⟩ := hb
  have HTW := Lib.hid (fun W2 (h2 : Below W.heap.size W W2) => Ir.twin_law l v1 W2 (hl.below h2) (by omega) (fun x hx => by have := hb3 x hx; omega))
  have HLY := Lib.hid (fun (sv : Value) (s2 : List S6.Sty) W2 (h2 : Below W.heap.size W W2) (hs2 : S6.Sh W2 sv s2) (hf2 : S6.Fit s2) (v2 : Value) (B : Nat) (hr : Ir.RdO (B ≤ ·) W2 v2 l) => layout_pro s2 l sv v2 tp wd W2 hs2 hf2 hr (by unfold Ir.sizeOk; omega) (hT.u.below h2 (Nat.le_refl _)) (hT.p.below h2 (Nat.le_refl _)))
  have HSH := Lib.hid hs
  have HCH := Lib.hid hc
  have HFO := Lib.hid (S6.othL_fit hf hcf (Nat.le_refl _))
  have HF := Lib.hid hf
  have HCO := Lib.hid (fun (hz : layE sh l tp wd = 0) (h2 : (S6.checkM (othL sh cs sh.length)).2 = 0) => colors_of hz h2 (S6.othL_len _ _ _))
  obtain ⟨ps, cps, rfl, q1, q2⟩ := hs.form
  obtain ⟨pa, cap, rfl, hc1, hc2⟩ := hl.form
  obtain ⟨pc, ccp, rfl, r1, r2⟩ := hc.form
  unfold maxLen at hc2 q2 r2
  obtain ⟨n, hn⟩ : ∃ n, l.length = n := ⟨_, rfl⟩
  obtain ⟨m, hm⟩ : ∃ m, sh.length = m := ⟨_, rfl⟩
  obtain ⟨nc, hnc⟩ : ∃ nc, cs.length = nc := ⟨_, rfl⟩
  have HN := Lib.hid hn
  have HM := Lib.hid hm
  have HC := Lib.hid hnc
  rw [hm] at HSH HFO HCO hss q1
  rw [hnc] at HCH r1
  rw [hn] at HTW hc1 ⊢
  rw [hm, hnc]
  have hN62 : n ≤ 9223372036854775807 := by omega
  have hM62 : m ≤ 9223372036854775807 := by omega
  have hC62 : nc ≤ 9223372036854775807 := by omega
  by_cases h3 : 3000 < n
  · have h3i : (3000 : Int) < n := by omega
    clear hs hl hf hT hb1 hb2 hb3 hn h3 HTW HLY hm hnc HSH HCH HFO HF HCO hc hcf
    go_enter Tryz.func7, Tryz.ntmps7
    go_wp2_with fail
    refine HAW.out.mono ?_
    rintro e w1 ⟨rfl, hb⟩
    have HB := Lib.hid hb
    clear hb
    go_wp2_with fail
    go_ret
    exact ⟨rfl, HB.out⟩
  have h3i : ¬ (3000 : Int) < n := by omega
  clear hs hl hf hT hb1 hb2 hb3 hn h3 hm hnc hc hcf q1 q2 r1 r2 hc1 hc2
  go_enter Tryz.func7, Tryz.ntmps7
  go_wp2_with fail
  refine HAW.out.mono ?_
  rintro e w1 ⟨rfl, hb⟩
  have HB := Lib.hid hb
  clear hb
  go_wp2_with fail
  go_loopw [11, 31] (fun o i wr => ∃ (k : Nat), i = .int .i64 k ∧ k ≤ m ∧ Hid (wr.ownsRow w1.heap.size 66 5 o k (S6.styRows (othL sh cs k))) ∧ Hid (Below w1.heap.size w1 wr)) (fun _ i _ => m - (intOf i).toNat)
  case atStart => exact ⟨0, rfl, Nat.zero_le _, Lib.hid (World.ownsRow_nil _ _ _ _), Lib.hid (Below.refl _ _)⟩
  case round =>
    obtain ⟨k, rfl, hk, HO, HBr⟩ := hrel
    have HBW := Lib.hid (HB.out.trans (HBr.out.mono HB.out.size))
    have HBS := Lib.hid HBr.out.size
    by_cases hlt : k < m
    · have hkl : k < sh.length := by rw [HM.out]; exact hlt
      obtain ⟨b, off, rfl, c0, c1, c2, c3, c4⟩ := (HSH.out.below HBW.out).cells hkl
      obtain ⟨x, hx⟩ : ∃ x, S6.gets sh k = x := ⟨_, rfl⟩
      rw [hx] at c0 c1 c2 c3 c4
      have hos : othS sh cs k = ⟨x.nm, x.pr, if k < nc then cs.getD k S6.zeroC else x.ch⟩ := by unfold othS; rw [hx, HC.out]
      obtain ⟨p3, c3', rfl⟩ := Ir.lenL HO.out
      have k1 : (k : Int) < m := by omega
      have HLT := Lib.hid hlt
      obtain ⟨xnm, xpr, ⟨xo, xf, xc⟩⟩ := x
      dsimp only at c0 c1 c2 c3 c4 hos
      clear hx hlt hkl
      by_cases hck : k < nc
      · have hkc : k < cs.length := by rw [HC.out]; exact hck
        obtain ⟨b2, off2, rfl, e0, e1, e2⟩ := (HCH.out.below HBW.out).cells hkc
        have hgd : cs.getD k S6.zeroC = cs[k] := by rw [List.getD_eq_getElem?_getD, List.getElem?_eq_getElem hkc]; rfl
        obtain ⟨c, hc⟩ : ∃ c, cs[k] = c := ⟨_, rfl⟩
        rw [hc] at e0 e1 e2 hgd
        rw [if_pos hck, hgd] at hos
        obtain ⟨co, cf, cc⟩ := c
        dsimp only at e0 e1 e2 hos
        have HOS := Lib.hid hos
        have k2 : (k : Int) < nc := by omega
        have hA := below_box wr (.cells #[.string (S6.bs xnm), .string (S6.bs xpr), .int .i64 xo, .int .i64 xf, .int .i64 xc] 66)
        have f0 := (hA.cell (p := ⟨b2, off2 + k * 3, none⟩) (cellInL e0)).trans e0
        have f1 := (hA.cell (p := ⟨b2, off2 + k * 3 + 1, none⟩) (cellInL e1)).trans e1
        have f2 := (hA.cell (p := ⟨b2, off2 + k * 3 + 2, none⟩) (cellInL e2)).trans e2
        clear hc hkc hck hos hgd hA
        /-P-/
        have hA2 := below_box wr (.cells #[.string (S6.bs xnm), .string (S6.bs xpr), .int .i64 co, .int .i64 cf, .int .i64 cc] 66)
        have hA3 := below_box (wr.alloc (.cells #[.string (S6.bs xnm), .string (S6.bs xpr), .int .i64 co, .int .i64 cf, .int .i64 cc] 66)) (.cells #[.string (S6.bs xnm), .string (S6.bs xpr), .int .i64 co, .int .i64 cf, .int .i64 cc] 66)
        have HR3 := Lib.hid (own_below (own_below HO.out hA2) hA3)
        have HB3 := Lib.hid ((HBr.out.trans (hA2.mono HBS.out)).trans (hA3.mono (Nat.le_trans HBS.out hA2.size)))
        have hxb := heap_alloc_new wr (.cells #[.string (S6.bs xnm), .string (S6.bs xpr), .int .i64 co, .int .i64 cf, .int .i64 cc] 66)
        obtain ⟨z0, z1, z2, z3, z4⟩ : (wr.alloc (.cells #[.string (S6.bs xnm), .string (S6.bs xpr), .int .i64 co, .int .i64 cf, .int .i64 cc] 66)).cell? ⟨wr.heap.size, 0, none⟩ = some (.string (S6.bs xnm)) ∧ (wr.alloc (.cells #[.string (S6.bs xnm), .string (S6.bs xpr), .int .i64 co, .int .i64 cf, .int .i64 cc] 66)).cell? ⟨wr.heap.size, 1, none⟩ = some (.string (S6.bs xpr)) ∧ (wr.alloc (.cells #[.string (S6.bs xnm), .string (S6.bs xpr), .int .i64 co, .int .i64 cf, .int .i64 cc] 66)).cell? ⟨wr.heap.size, 2, none⟩ = some (.int .i64 co) ∧ (wr.alloc (.cells #[.string (S6.bs xnm), .string (S6.bs xpr), .int .i64 co, .int .i64 cf, .int .i64 cc] 66)).cell? ⟨wr.heap.size, 3, none⟩ = some (.int .i64 cf) ∧ (wr.alloc (.cells #[.string (S6.bs xnm), .string (S6.bs xpr), .int .i64 co, .int .i64 cf, .int .i64 cc] 66)).cell? ⟨wr.heap.size, 4, none⟩ = some (.int .i64 cc) := by
          refine ⟨?_, ?_, ?_, ?_, ?_⟩ <;> rw [cell_of_row _ _ _ _ _ _ hxb] <;> rfl
        have L1 := Lib.hid (show k + 1 ≤ maxLen by have := HLT.out; unfold maxLen; omega)
        have L2 := Lib.hid (show (k + 1) * 56 ≤ 140737488355328 by have := HLT.out; omega)
        have L3 := Lib.hid HB3.out.size
        clear hA2 hA3 hxb
        go_wp2_with (at_builtin; go_loud (refine wpList_append_own _ rfl _ _ 22 rfl w1.heap.size 66 i0 _ 5 56 Tryz.underlying22 hi0 hz0 hz1 hz2 rfl (by decide) _ _ _ rfl HR3.out _ 1 1 (S6.styRow ⟨xnm, xpr, ⟨co, cf, cc⟩⟩) rfl rfl (cells_newC5 (by simp)) (S6.styRow_oneL _) L1.out L2.out L3.out ?_); intro v6 w6 hown6 hgrow6 _; go_loud (have HO6 := Lib.hid (show w6.ownsRow w1.heap.size 66 5 v6 (k + 1) (S6.styRows (othL sh cs (k + 1))) from (by rw [S6.othL_succ, S6.styRows_snocL, HOS.out]; exact hown6))); go_loud (have HB6 := Lib.hid (HB3.out.grown hgrow6 L3.out (fun r e => (own_base HR3.out e).1))); clear hown6 hgrow6)
        go_wp2_with fail
        go_roundw
        case measure => have := HLT.out; simp [intOf]; omega
        case rel => exact ⟨k + 1, by go_num, HLT.out, HO6, HB6⟩
      · rw [if_neg hck] at hos
        have HOS := Lib.hid hos
        have k2 : ¬ (k : Int) < nc := by omega
        clear hos hck
        /-P-/
        have hA2 := below_box wr (.cells #[.string (S6.bs xnm), .string (S6.bs xpr), .int .i64 xo, .int .i64 xf, .int .i64 xc] 66)
        have hA3 := below_box (wr.alloc (.cells #[.string (S6.bs xnm), .string (S6.bs xpr), .int .i64 xo, .int .i64 xf, .int .i64 xc] 66)) (.cells #[.string (S6.bs xnm), .string (S6.bs xpr), .int .i64 xo, .int .i64 xf, .int .i64 xc] 66)
        have HR3 := Lib.hid (own_below (own_below HO.out hA2) hA3)
        have HB3 := Lib.hid ((HBr.out.trans (hA2.mono HBS.out)).trans (hA3.mono (Nat.le_trans HBS.out hA2.size)))
        have hxb := heap_alloc_new wr (.cells #[.string (S6.bs xnm), .string (S6.bs xpr), .int .i64 xo, .int .i64 xf, .int .i64 xc] 66)
        obtain ⟨z0, z1, z2, z3, z4⟩ : (wr.alloc (.cells #[.string (S6.bs xnm), .string (S6.bs xpr), .int .i64 xo, .int .i64 xf, .int .i64 xc] 66)).cell? ⟨wr.heap.size, 0, none⟩ = some (.string (S6.bs xnm)) ∧ (wr.alloc (.cells #[.string (S6.bs xnm), .string (S6.bs xpr), .int .i64 xo, .int .i64 xf, .int .i64 xc] 66)).cell? ⟨wr.heap.size, 1, none⟩ = some (.string (S6.bs xpr)) ∧ (wr.alloc (.cells #[.string (S6.bs xnm), .string (S6.bs xpr), .int .i64 xo, .int .i64 xf, .int .i64 xc] 66)).cell? ⟨wr.heap.size, 2, none⟩ = some (.int .i64 xo) ∧ (wr.alloc (.cells #[.string (S6.bs xnm), .string (S6.bs xpr), .int .i64 xo, .int .i64 xf, .int .i64 xc] 66)).cell? ⟨wr.heap.size, 3, none⟩ = some (.int .i64 xf) ∧ (wr.alloc (.cells #[.string (S6.bs xnm), .string (S6.bs xpr), .int .i64 xo, .int .i64 xf, .int .i64 xc] 66)).cell? ⟨wr.heap.size, 4, none⟩ = some (.int .i64 xc) := by
          refine ⟨?_, ?_, ?_, ?_, ?_⟩ <;> rw [cell_of_row _ _ _ _ _ _ hxb] <;> rfl
        have L1 := Lib.hid (show k + 1 ≤ maxLen by have := HLT.out; unfold maxLen; omega)
        have L2 := Lib.hid (show (k + 1) * 56 ≤ 140737488355328 by have := HLT.out; omega)
        have L3 := Lib.hid HB3.out.size
        clear hA2 hA3 hxb
        go_wp2_with (at_builtin; go_loud (refine wpList_append_own _ rfl _ _ 22 rfl w1.heap.size 66 i0 _ 5 56 Tryz.underlying22 hi0 hz0 hz1 hz2 rfl (by decide) _ _ _ rfl HR3.out _ 1 1 (S6.styRow ⟨xnm, xpr, ⟨xo, xf, xc⟩⟩) rfl rfl (cells_newC5 (by simp)) (S6.styRow_oneL _) L1.out L2.out L3.out ?_); intro v6 w6 hown6 hgrow6 _; go_loud (have HO6 := Lib.hid (show w6.ownsRow w1.heap.size 66 5 v6 (k + 1) (S6.styRows (othL sh cs (k + 1))) from (by rw [S6.othL_succ, S6.styRows_snocL, HOS.out]; exact hown6))); go_loud (have HB6 := Lib.hid (HB3.out.grown hgrow6 L3.out (fun r e => (own_base HR3.out e).1))); clear hown6 hgrow6)
        go_wp2_with fail
        go_roundw
        case measure => have := HLT.out; simp [intOf]; omega
        case rel => exact ⟨k + 1, by go_num, HLT.out, HO6, HB6⟩
    · obtain rfl : k = m := by omega
      have k1 : ¬ (k : Int) < k := by omega
      have hso := HO.out
      obtain ⟨p3, c3, rfl⟩ := Ir.lenL hso
      have HSO := Lib.hid (S6.Sh.own (l := othL sh cs k) (by rw [S6.othL_len]; exact hso))
      have HCK := Lib.hid (S6.check_ref (othL sh cs k) (.slice p3 k c3) wr HSO.out HFO.out)
      unfold S6.Says S6.ckV at HCK
      obtain ⟨ckr, hck⟩ : ∃ r, S6.checkM (othL sh cs k) = r := ⟨_, rfl⟩
      rw [hck] at HCK HCO
      clear hlt hso hck
      go_wp2_with fail
      refine HCK.out.mono ?_
      rintro e w5 ⟨rfl, hb5⟩
      have HB5 := Lib.hid (HBW.out.trans (hb5.mono HBW.out.size))
      have HSO5 := Lib.hid (HSO.out.below hb5)
      clear hb5 HCK HSO HO
      by_cases e2 : ¬ ckr.2 = 0
      · have e2b : ((ckr.2 : Int) != 0) = true := S6.natne e2
        clear HLY HTW HSH HCH
        go_wp2_with fail
        go_ret
        exact ⟨rfl, HB5.out⟩
      have e2' : ckr.2 = 0 := by omega
      have e2b : ((ckr.2 : Int) != 0) = false := S6.nateq e2'
      have HCO2 := Lib.hid (fun hz => HCO.out hz e2')
      have HTW5 := Lib.hid (HTW.out w5 HB5.out)
      clear e2 e2' HCO
      go_wp2_with fail
      refine HTW5.out.mono ?_
      rintro e w6 ⟨va, psa, rfl, hoa, hpa, hba⟩
      have HB6 := Lib.hid (HB5.out.trans (hba.mono HB5.out.size))
      have HSO6 := Lib.hid (HSO5.out.below hba)
      have hL1 := HLY.out _ sh w6 HB6.out (HSH.out.below HB6.out) HF.out _ _ (twin_rd (w' := w6) hoa hpa)
      unfold LayIs at hL1
      obtain ⟨z, hz⟩ : ∃ z, layE sh l tp wd = z := ⟨_, rfl⟩
      obtain ⟨d, hd⟩ : ∃ d, layL sh l tp wd = d := ⟨_, rfl⟩
      obtain ⟨z2, hz2'⟩ : ∃ z2, layE (othL sh cs k) l tp wd = z2 := ⟨_, rfl⟩
      obtain ⟨d2, hd2⟩ : ∃ d2, layL (othL sh cs k) l tp wd = d2 := ⟨_, rfl⟩
      rw [hz, hd] at hL1
      rw [hz, hz2', hd, hd2] at HCO2
      have HZ2 := Lib.hid hz2'
      have HD2 := Lib.hid hd2
      have HFL := Lib.hid (show z = 0 → FitL tp wd d ∧ (10 ≤ wd ∧ wd ≤ 200) from fun e => hd ▸ fitL_of (hz.trans e))
      have HL1 := Lib.hid hL1
      obtain ⟨pva, cva, rfl⟩ := Ir.lenL hoa.row
      clear hoa hpa hba hL1 hz hd hz2' hd2 HTW5 HSO5
      go_wp2_with fail
      refine HL1.out.mono ?_
      rintro e w7 ⟨vl, vr, vk, rfl, hD, hb7⟩
      have hB7 := HB6.out.trans (hb7.mono HB6.out.size)
      have HSO7 := Lib.hid (HSO6.out.below hb7)
      obtain ⟨pl, cl, rfl, -, -⟩ := hD.lines.form
      obtain ⟨pr, cr, rfl, -, -⟩ := hD.rects.form
      obtain ⟨pk, ck, rfl, -, -, -⟩ := hD.links
      unfold laidV
      obtain ⟨nl, hnl⟩ : ∃ nl, d.lines.length = nl := ⟨_, rfl⟩
      obtain ⟨nr, hnr⟩ : ∃ nr, d.rects.length = nr := ⟨_, rfl⟩
      obtain ⟨nk, hnk⟩ : ∃ nk, d.links.length = nk := ⟨_, rfl⟩
      obtain ⟨m1, hm1⟩ : ∃ m1, d.more = m1 := ⟨_, rfl⟩
      have HNL := Lib.hid hnl
      have HNR := Lib.hid hnr
      have HM1 := Lib.hid hm1
      rw [hnl, hnr, hnk] at hD
      rw [hnl, hnr, hnk, hm1]
      have hA7 := below_box w7 (.cells #[.slice pl nl cl, .slice pr nr cr, .slice pk nk ck, .bool m1] 29)
      have HX7 := Lib.hid (laid_cells w7 (.slice pl nl cl) (.slice pr nr cr) (.slice pk nk ck) m1)
      have HD7 := Lib.hid (hD.below hA7)
      have HB8 := Lib.hid (hB7.trans (hA7.mono hB7.size))
      have HSO8 := Lib.hid (HSO7.out.below hA7)
      have HTW8 := Lib.hid (HTW.out _ HB8.out)
      clear hD hb7 hB7 hA7 hnl hnr hnk hm1 HL1 HSO6 HSO7 HTW
      go_wp2_with fail
      refine HTW8.out.mono ?_
      rintro e w9 ⟨vb, psb, rfl, hob, hpb, hbb⟩
      have HX9 := Lib.hid (show w9.heap[w7.heap.size]? = some (.cells #[.slice pl nl cl, .slice pr nr cr, .slice pk nk ck, .bool m1] 29 (0, 0)) from (hbb.block _ (Array.getElem?_eq_some_iff.1 HX7.out).1).trans HX7.out)
      have hB9 := HB8.out.trans (hbb.mono HB8.out.size)
      have HD9 := Lib.hid (HD7.out.below hbb)
      have hL2 := HLY.out _ (othL sh cs k) w9 hB9 (HSO8.out.below hbb) HFO.out _ _ (twin_rd (w' := w9) hob hpb)
      unfold LayIs at hL2
      rw [HZ2.out, HD2.out] at hL2
      have HL2 := Lib.hid hL2
      have HB9 := Lib.hid hB9
      obtain ⟨pvb, cvb, rfl⟩ := Ir.lenL hob.row
      clear hob hpb hbb hB9 hL2 HX7 HLY HSO8 HTW8 HD7 HSH HCH
      go_wp2_with fail
      refine HL2.out.mono ?_
      rintro e w10 ⟨vl2, vr2, vk2, rfl, hD2, hb10⟩
      obtain ⟨pl2, cl2, rfl, -, -⟩ := hD2.lines.form
      obtain ⟨pr2, cr2, rfl, -, -⟩ := hD2.rects.form
      obtain ⟨pk2, ck2, rfl, -, -, -⟩ := hD2.links
      unfold laidV
      obtain ⟨nl2, hnl2⟩ : ∃ nl2, d2.lines.length = nl2 := ⟨_, rfl⟩
      obtain ⟨nr2, hnr2⟩ : ∃ nr2, d2.rects.length = nr2 := ⟨_, rfl⟩
      obtain ⟨nk2, hnk2⟩ : ∃ nk2, d2.links.length = nk2 := ⟨_, rfl⟩
      obtain ⟨m2, hm2⟩ : ∃ m2, d2.more = m2 := ⟨_, rfl⟩
      have HNL2 := Lib.hid hnl2
      have HNR2 := Lib.hid hnr2
      have HM2 := Lib.hid hm2
      rw [hnl2, hnr2, hnk2] at hD2
      rw [hnl2, hnr2, hnk2, hm2]
      have hB10 := HB9.out.trans (hb10.mono HB9.out.size)
      have hA10 := below_box w10 (.cells #[.slice pl2 nl2 cl2, .slice pr2 nr2 cr2, .slice pk2 nk2 ck2, .bool m2] 29)
      have hX10 := laid_cells w10 (.slice pl2 nl2 cl2) (.slice pr2 nr2 cr2) (.slice pk2 nk2 ck2) m2
      have hl79 : w7.heap.size < w9.heap.size := (Array.getElem?_eq_some_iff.1 HX9.out).1
      have hx10 := (hA10.block _ (Nat.lt_of_lt_of_le hl79 hb10.size)).trans ((hb10.block _ hl79).trans HX9.out)
      have HB11 := Lib.hid (hB10.trans (hA10.mono hB10.size))
      have HD11 := Lib.hid ((HD9.out.below hb10).below hA10)
      have HE11 := Lib.hid (hD2.below hA10)
      clear hD2 hb10 hB10 hA10 hnl2 hnr2 hnk2 hm2 HL2 HX9 HD9 hl79
      by_cases hz0 : ¬ z = 0
      · have hzb : (z != 0) = true := by simpa using hz0
        clear HD11 HE11 HCO2
        go_wp2_with fail
        go_ret
        exact ⟨rfl, HB11.out⟩
      have hz0' : z = 0 := by omega
      have hzb : (z != 0) = false := by simpa using hz0'
      obtain ⟨hE, hS⟩ := HCO2.out hz0'
      have hzb2 : (z2 != 0) = false := by rw [hE]; rfl
      have HFL2 := Lib.hid (HFL.out hz0')
      have HSE := Lib.hid hS
      have hnn : nl2 = nl := by rw [← HNL.out, ← HNL2.out]; exact (len_same hS.ls).symm
      have hmm : m2 = m1 := by rw [← HM1.out, ← HM2.out]; exact hS.more.symm
      have hrr : d2.rects = d.rects := hS.rects.symm
      have hnr : nr2 = nr := by rw [← HNR.out, ← HNR2.out, hrr]
      subst hnn
      subst hmm
      subst hnr
      have hLR := lrects_law d.rects (.slice pr nr2 cr) (.slice pr2 nr2 cr2) _ HD11.out.rects (by rw [← hrr]; exact HE11.out.rects)
      have HLR := Lib.hid hLR
      obtain ⟨x0, x1, x3⟩ : (w10.alloc (.cells #[.slice pl2 nl2 cl2, .slice pr2 nr2 cr2, .slice pk2 nk2 ck2, .bool m2] 29)).cell? ⟨w7.heap.size, 0, none⟩ = some (.slice pl nl2 cl) ∧ (w10.alloc (.cells #[.slice pl2 nl2 cl2, .slice pr2 nr2 cr2, .slice pk2 nk2 ck2, .bool m2] 29)).cell? ⟨w7.heap.size, 1, none⟩ = some (.slice pr nr2 cr) ∧ (w10.alloc (.cells #[.slice pl2 nl2 cl2, .slice pr2 nr2 cr2, .slice pk2 nk2 ck2, .bool m2] 29)).cell? ⟨w7.heap.size, 3, none⟩ = some (.bool m2) := by
        refine ⟨?_, ?_, ?_⟩ <;> rw [cell_of_row _ _ _ _ _ _ hx10] <;> rfl
      obtain ⟨y0, y1, y3⟩ : (w10.alloc (.cells #[.slice pl2 nl2 cl2, .slice pr2 nr2 cr2, .slice pk2 nk2 ck2, .bool m2] 29)).cell? ⟨w10.heap.size, 0, none⟩ = some (.slice pl2 nl2 cl2) ∧ (w10.alloc (.cells #[.slice pl2 nl2 cl2, .slice pr2 nr2 cr2, .slice pk2 nk2 ck2, .bool m2] 29)).cell? ⟨w10.heap.size, 1, none⟩ = some (.slice pr2 nr2 cr2) ∧ (w10.alloc (.cells #[.slice pl2 nl2 cl2, .slice pr2 nr2 cr2, .slice pk2 nk2 ck2, .bool m2] 29)).cell? ⟨w10.heap.size, 3, none⟩ = some (.bool m2) := by
        refine ⟨?_, ?_, ?_⟩ <;> rw [cell_of_row _ _ _ _ _ _ hX10] <;> rfl
      have t1 : ((nl2 : Int) != (nl2 : Int)) = false := by simp
      have t2 : (m2 != m2) = false := by simp
      have HXA := Lib.hid hx10
      have HXB := Lib.hid hX10
      clear hz0 hz0' hE hS hrr hLR HCO2 HFL hx10 hX10
      go_wp2_with fail
      /-Q-/
      refine HLR.out.mono ?_
      rintro e w11 ⟨rfl, hb11⟩
      have HB12 := Lib.hid (HB11.out.trans (hb11.mono HB11.out.size))
      have HDL := Lib.hid (HD11.out.lines.below hb11)
      have HEL := Lib.hid (HE11.out.lines.below hb11)
      have hxa := (hb11.block _ (Array.getElem?_eq_some_iff.1 HXA.out).1).trans HXA.out
      have hxb := (hb11.block _ (Array.getElem?_eq_some_iff.1 HXB.out).1).trans HXB.out
      obtain ⟨A, hA⟩ : ∃ A, w7.heap.size = A := ⟨_, rfl⟩
      obtain ⟨C, hC⟩ : ∃ C, w10.heap.size = C := ⟨_, rfl⟩
      rw [hA] at hxa ⊢
      rw [hC] at hxb ⊢
      have HBX := Lib.hid (fun (W6 : World) (h6 : Below w11.heap.size w11 W6) => (show W6.cell? ⟨A, 0, none⟩ = some (.slice pl nl2 cl) ∧ W6.cell? ⟨C, 0, none⟩ = some (.slice pl2 nl2 cl2) from by
        have h1 := (h6.block _ (Array.getElem?_eq_some_iff.1 hxa).1).trans hxa
        have h2 := (h6.block _ (Array.getElem?_eq_some_iff.1 hxb).1).trans hxb
        refine ⟨?_, ?_⟩
        · rw [cell_of_row _ _ _ _ _ _ h1]; rfl
        · rw [cell_of_row _ _ _ _ _ _ h2]; rfl))
      obtain ⟨x0, y0⟩ := HBX.out w11 (Below.refl _ _)
      have nl2k : nl2 ≤ 2000 := by have := HFL2.out.1.num; rw [HNL.out] at this; exact this
      have nl62 : nl2 ≤ 9223372036854775807 := by omega
      clear hb11 hxa hxb hA hC HLR HD11 HE11 HXA HXB x1 x3 y1 y3
      go_wp2_with fail
      clear x0 y0
      go_loopw [106] (fun i wr => ∃ (r : Nat), i = .int .i64 r ∧ r ≤ nl2 ∧ Hid (Below w11.heap.size w11 wr)) (fun i _ => nl2 - (intOf i).toNat)
      case atStart => exact ⟨0, rfl, Nat.zero_le _, Lib.hid (Below.refl _ _)⟩
      case round =>
        obtain ⟨r, rfl, hr, HB2⟩ := hrel
        obtain ⟨x0, y0⟩ := HBX.out wr HB2.out
        by_cases hlr : r < nl2
        · have hr1 : r < d.lines.length := by rw [HNL.out]; exact hlr
          have hr2 : r < d2.lines.length := by rw [HNL2.out]; exact hlr
          obtain ⟨g, off3, pt, ct, hpl, -, e0, -, -, hrd⟩ := (HDL.out.below HB2.out).at_ (by rw [HNL.out]; exact hlr)
          obtain ⟨g2, off4, pt2, ct2, hpl2, -, f0, -, -, hrd2⟩ := (HEL.out.below HB2.out).at_ (by rw [HNL2.out]; exact hlr)
          have hers := ers_at HSE.out.ls hr1 hr2
          have hxl5 := (HFL2.out.1.small _ (List.getElem_mem hr1)).2
          obtain ⟨x, hx⟩ : ∃ x, d.lines[r] = x := ⟨_, rfl⟩
          obtain ⟨y, hy⟩ : ∃ y, d2.lines[r] = y := ⟨_, rfl⟩
          rw [hx] at e0 hrd hers hxl5
          rw [hy] at f0 hrd2 hers
          have hxy := row_same hers
          subst hpl
          subst hpl2
          obtain ⟨xl, hxl⟩ : ∃ xl, x.length = xl := ⟨_, rfl⟩
          have HXL := Lib.hid hxl
          have HYL := Lib.hid (hxy.symm.trans hxl)
          rw [← hxy] at f0 hrd2
          rw [hxl] at e0 f0 hrd hrd2 hxl5
          have HRD := Lib.hid hrd
          have HRE := Lib.hid hrd2
          have HER := Lib.hid (fun (j : Nat) (h1 : j < x.length) (h2 : j < y.length) => er_at hers h1 h2)
          have k2 : (r : Int) < nl2 := by omega
          have xl62 : xl ≤ 9223372036854775807 := by omega
          have t3 : ((xl : Int) != (xl : Int)) = false := by simp
          have HLR2 := Lib.hid hlr
          obtain ⟨wo, rfl⟩ : ∃ wo : World, wo = wr := ⟨_, rfl⟩
          clear hrd hrd2 hers hx hy hxy hxl hr1 hr2 hlr
          go_upto_region 25 with fail
          go_quiet (fail)
          have HBQ := Lib.hid (show Below wo.heap.size wo (wo.drewN nq) from dn_below (Below.refl _ _) nq)
          have x0' : (wo.drewN nq).cell? ⟨A, 0, none⟩ = some (.slice (some ⟨g, off3, none⟩) nl2 cl) := x0
          have e0' : (wo.drewN nq).cell? ⟨g, off3 + r, none⟩ = some (.slice pt xl ct) := e0
          go_wp2_with fail
          obtain ⟨wq, hwq⟩ : ∃ wq, wo.drewN nq = wq := ⟨_, rfl⟩
          have HLN := Lib.hid (fun (W6 : World) (h6 : Below (wo.drewN nq).heap.size (wo.drewN nq) W6) => (show W6.cell? ⟨A, 0, none⟩ = some (.slice (some ⟨g, off3, none⟩) nl2 cl) ∧ W6.cell? ⟨C, 0, none⟩ = some (.slice (some ⟨g2, off4, none⟩) nl2 cl2) ∧ W6.cell? ⟨g, off3 + r, none⟩ = some (.slice pt xl ct) ∧ W6.cell? ⟨g2, off4 + r, none⟩ = some (.slice pt2 xl ct2) from
            ⟨(h6.cell (p := ⟨A, 0, none⟩) (cellInL x0)).trans x0, (h6.cell (p := ⟨C, 0, none⟩) (cellInL y0)).trans y0, (h6.cell (p := ⟨g, off3 + r, none⟩) (cellInL e0)).trans e0, (h6.cell (p := ⟨g2, off4 + r, none⟩) (cellInL f0)).trans f0⟩))
          have HRD2 := Lib.hid (HRD.out.below HBQ.out)
          have HRE2 := Lib.hid (HRE.out.below HBQ.out)
          have HB2Q := Lib.hid (HB2.out.trans (HBQ.out.mono HB2.out.size))
          rw [hwq] at HLN HRD2 HRE2 HB2Q
          rw [hwq]
          clear hwq HBQ HRD HRE x0 y0 e0 f0 x0' e0'
          go_loopw [128] (fun i w3 => ∃ (j : Nat), i = .int .i64 j ∧ j ≤ xl ∧ Hid (Below wq.heap.size wq w3)) (fun i _ => xl - (intOf i).toNat)
          case atStart => exact ⟨0, rfl, Nat.zero_le _, Lib.hid (Below.refl _ _)⟩
          case round =>
            obtain ⟨j, rfl, hj, HB3⟩ := hrel
            by_cases hlj : j < xl
            · have hj1 : j < x.length := by rw [HXL.out]; exact hlj
              have hj2 : j < y.length := by rw [HYL.out]; exact hlj
              obtain ⟨x0, y0, e0, f0⟩ := HLN.out wr HB3.out
              obtain ⟨ga', oa, hga, -, p0, p1, p2, p3, p4⟩ := (HRD2.out.below HB3.out).at_ (by rw [HXL.out]; exact hlj)
              obtain ⟨gb', ob, hgb, -, q0, q1, q2, q3, q4⟩ := (HRE2.out.below HB3.out).at_ (by rw [HYL.out]; exact hlj)
              subst hga
              subst hgb
              have her := HER.out j hj1 hj2
              obtain ⟨⟨at', aw, aa, ac, ak⟩, hxj⟩ : ∃ g, x[j] = g := ⟨_, rfl⟩
              obtain ⟨⟨bt, bw, ba, bc, bk⟩, hyj⟩ : ∃ g, y[j] = g := ⟨_, rfl⟩
              rw [hxj] at p0 p1 p2 p3 p4 her
              rw [hyj] at q0 q1 q2 q3 q4 her
              dsimp only at p0 p1 p2 p3 p4 q0 q1 q2 q3 q4 her
              obtain ⟨r1, r2, r3⟩ := her
              subst r1
              subst r2
              subst r3
              have n1 : (at'.toList != at'.toList) = false := by simp
              have n2 : (aw != aw) = false := by simp
              have n3 : (ak != ak) = false := by simp
              have k3 : (j : Int) < xl := by omega
              have HLJ := Lib.hid hlj
              have hb1 : ga' < wr.heap.size := cellInL p0
              have hb2 : gb' < wr.heap.size := cellInL q0
              have hb3 : A < wr.heap.size := cellInL x0
              have hb4 : C < wr.heap.size := cellInL y0
              have hb5 : g < wr.heap.size := cellInL e0
              have hb6 : g2 < wr.heap.size := cellInL f0
              clear hxj hyj hj1 hj2 hlj
              have HALL := Lib.hid (fun (w' : World) (hb : Below wr.heap.size wr w') => (show Below wr.heap.size wr w' ∧ w'.cell? ⟨A, 0, none⟩ = some (.slice (some ⟨g, off3, none⟩) nl2 cl) ∧ w'.cell? ⟨C, 0, none⟩ = some (.slice (some ⟨g2, off4, none⟩) nl2 cl2) ∧ w'.cell? ⟨g, off3 + r, none⟩ = some (.slice (some ⟨ga', oa, none⟩) xl ct) ∧ w'.cell? ⟨g2, off4 + r, none⟩ = some (.slice (some ⟨gb', ob, none⟩) xl ct2) ∧ w'.cell? ⟨ga', oa + j * 5, none⟩ = some (.string at') ∧ w'.cell? ⟨ga', oa + j * 5 + 1, none⟩ = some (.int .i64 aw) ∧ w'.cell? ⟨ga', oa + j * 5 + 2, none⟩ = some (.int .i64 aa) ∧ w'.cell? ⟨ga', oa + j * 5 + 3, none⟩ = some (.int .i64 ac) ∧ w'.cell? ⟨ga', oa + j * 5 + 4, none⟩ = some (.int .i64 ak) ∧ w'.cell? ⟨gb', ob + j * 5, none⟩ = some (.string at') ∧ w'.cell? ⟨gb', ob + j * 5 + 1, none⟩ = some (.int .i64 aw) ∧ w'.cell? ⟨gb', ob + j * 5 + 2, none⟩ = some (.int .i64 ba) ∧ w'.cell? ⟨gb', ob + j * 5 + 3, none⟩ = some (.int .i64 bc) ∧ w'.cell? ⟨gb', ob + j * 5 + 4, none⟩ = some (.int .i64 ak) from
                ⟨hb, (hb.cell (p := ⟨A, 0, none⟩) hb3).trans x0, (hb.cell (p := ⟨C, 0, none⟩) hb4).trans y0, (hb.cell (p := ⟨g, off3 + r, none⟩) hb5).trans e0, (hb.cell (p := ⟨g2, off4 + r, none⟩) hb6).trans f0, (hb.cell (p := ⟨ga', oa + j * 5, none⟩) hb1).trans p0, (hb.cell (p := ⟨ga', oa + j * 5 + 1, none⟩) hb1).trans p1, (hb.cell (p := ⟨ga', oa + j * 5 + 2, none⟩) hb1).trans p2, (hb.cell (p := ⟨ga', oa + j * 5 + 3, none⟩) hb1).trans p3, (hb.cell (p := ⟨ga', oa + j * 5 + 4, none⟩) hb1).trans p4, (hb.cell (p := ⟨gb', ob + j * 5, none⟩) hb2).trans q0, (hb.cell (p := ⟨gb', ob + j * 5 + 1, none⟩) hb2).trans q1, (hb.cell (p := ⟨gb', ob + j * 5 + 2, none⟩) hb2).trans q2, (hb.cell (p := ⟨gb', ob + j * 5 + 3, none⟩) hb2).trans q3, (hb.cell (p := ⟨gb', ob + j * 5 + 4, none⟩) hb2).trans q4⟩))
              clear x0 y0 e0 f0 p0 p1 p2 p3 p4 q0 q1 q2 q3 q4 hb1 hb2 hb3 hb4 hb5 hb6
              go_upto_region 30 with fail
              go_region_held3 (fun w' => Below wr.heap.size wr w' ∧ w'.cell? ⟨A, 0, none⟩ = some (.slice (some ⟨g, off3, none⟩) nl2 cl) ∧ w'.cell? ⟨C, 0, none⟩ = some (.slice (some ⟨g2, off4, none⟩) nl2 cl2) ∧ w'.cell? ⟨g, off3 + r, none⟩ = some (.slice (some ⟨ga', oa, none⟩) xl ct) ∧ w'.cell? ⟨g2, off4 + r, none⟩ = some (.slice (some ⟨gb', ob, none⟩) xl ct2) ∧ w'.cell? ⟨ga', oa + j * 5, none⟩ = some (.string at') ∧ w'.cell? ⟨ga', oa + j * 5 + 1, none⟩ = some (.int .i64 aw) ∧ w'.cell? ⟨ga', oa + j * 5 + 2, none⟩ = some (.int .i64 aa) ∧ w'.cell? ⟨ga', oa + j * 5 + 3, none⟩ = some (.int .i64 ac) ∧ w'.cell? ⟨ga', oa + j * 5 + 4, none⟩ = some (.int .i64 ak) ∧ w'.cell? ⟨gb', ob + j * 5, none⟩ = some (.string at') ∧ w'.cell? ⟨gb', ob + j * 5 + 1, none⟩ = some (.int .i64 aw) ∧ w'.cell? ⟨gb', ob + j * 5 + 2, none⟩ = some (.int .i64 ba) ∧ w'.cell? ⟨gb', ob + j * 5 + 3, none⟩ = some (.int .i64 bc) ∧ w'.cell? ⟨gb', ob + j * 5 + 4, none⟩ = some (.int .i64 ak))
                (first | exact HALL.out _ ((Below.refl _ _).drew) | exact HALL.out _ (below_d1 _ _) | exact HALL.out _ (below_d2 _ _ _)) (fail)
              · have x6 := heap_alloc_new wr (.cells #[.string at', .int .i64 aw, .int .i64 aa, .int .i64 ac, .int .i64 ak] 44)
                have x7 := heap_alloc_new (wr.alloc (.cells #[.string at', .int .i64 aw, .int .i64 aa, .int .i64 ac, .int .i64 ak] 44)) (.cells #[.string at', .int .i64 aw, .int .i64 ba, .int .i64 bc, .int .i64 ak] 44)
                have x6' : ((wr.alloc (.cells #[.string at', .int .i64 aw, .int .i64 aa, .int .i64 ac, .int .i64 ak] 44)).alloc (.cells #[.string at', .int .i64 aw, .int .i64 ba, .int .i64 bc, .int .i64 ak] 44)).heap[wr.heap.size]? = some (.cells #[.string at', .int .i64 aw, .int .i64 aa, .int .i64 ac, .int .i64 ak] 44 (0, 0)) := by rw [Below.heap_alloc _ _ _ (Array.getElem?_eq_some_iff.1 x6).1]; exact x6
                rw [show (wr.alloc (.cells #[.string at', .int .i64 aw, .int .i64 aa, .int .i64 ac, .int .i64 ak] 44)).heap.size = wr.heap.size + 1 by simp] at x7
                have HW := Lib.hid (HB3.out.trans ((below_d2 wr (.cells #[.string at', .int .i64 aw, .int .i64 aa, .int .i64 ac, .int .i64 ak] 44) (.cells #[.string at', .int .i64 aw, .int .i64 ba, .int .i64 bc, .int .i64 ak] 44)).mono HB3.out.size))
                obtain ⟨W2, hW2⟩ : ∃ W2, ((wr.alloc (.cells #[.string at', .int .i64 aw, .int .i64 aa, .int .i64 ac, .int .i64 ak] 44)).alloc (.cells #[.string at', .int .i64 aw, .int .i64 ba, .int .i64 bc, .int .i64 ak] 44)).drew = W2 := ⟨_, rfl⟩
                have y6 : W2.heap[wr.heap.size]? = some (.cells #[.string at', .int .i64 aw, .int .i64 aa, .int .i64 ac, .int .i64 ak] 44 (0, 0)) := by rw [← hW2]; exact x6'
                have y7 : W2.heap[wr.heap.size + 1]? = some (.cells #[.string at', .int .i64 aw, .int .i64 ba, .int .i64 bc, .int .i64 ak] 44 (0, 0)) := by rw [← hW2]; exact x7
                obtain ⟨a0, a1, a4⟩ : W2.cell? ⟨wr.heap.size, 0, none⟩ = some (.string at') ∧ W2.cell? ⟨wr.heap.size, 1, none⟩ = some (.int .i64 aw) ∧ W2.cell? ⟨wr.heap.size, 4, none⟩ = some (.int .i64 ak) := by
                  refine ⟨?_, ?_, ?_⟩ <;> rw [cell_of_row _ _ _ _ _ _ y6] <;> rfl
                obtain ⟨b0, b1, b4⟩ : W2.cell? ⟨wr.heap.size + 1, 0, none⟩ = some (.string at') ∧ W2.cell? ⟨wr.heap.size + 1, 1, none⟩ = some (.int .i64 aw) ∧ W2.cell? ⟨wr.heap.size + 1, 4, none⟩ = some (.int .i64 ak) := by
                  refine ⟨?_, ?_, ?_⟩ <;> rw [cell_of_row _ _ _ _ _ _ y7] <;> rfl
                rw [hW2] at HW ⊢
                clear x6 x7 x6' y6 y7 hW2
                go_wp2_with fail
                go_roundw
                case measure => have := HLJ.out; simp [intOf]; omega
                case rel => exact ⟨j + 1, by go_num, HLJ.out, HW⟩
              · have x6 := heap_alloc_new wr (.cells #[.string at', .int .i64 aw, .int .i64 ba, .int .i64 bc, .int .i64 ak] 44)
                have x7 := heap_alloc_new (wr.alloc (.cells #[.string at', .int .i64 aw, .int .i64 ba, .int .i64 bc, .int .i64 ak] 44)) (.cells #[.string at', .int .i64 aw, .int .i64 aa, .int .i64 ac, .int .i64 ak] 44)
                have x6' : ((wr.alloc (.cells #[.string at', .int .i64 aw, .int .i64 ba, .int .i64 bc, .int .i64 ak] 44)).alloc (.cells #[.string at', .int .i64 aw, .int .i64 aa, .int .i64 ac, .int .i64 ak] 44)).heap[wr.heap.size]? = some (.cells #[.string at', .int .i64 aw, .int .i64 ba, .int .i64 bc, .int .i64 ak] 44 (0, 0)) := by rw [Below.heap_alloc _ _ _ (Array.getElem?_eq_some_iff.1 x6).1]; exact x6
                rw [show (wr.alloc (.cells #[.string at', .int .i64 aw, .int .i64 ba, .int .i64 bc, .int .i64 ak] 44)).heap.size = wr.heap.size + 1 by simp] at x7
                have HW := Lib.hid (HB3.out.trans ((below_d2 wr (.cells #[.string at', .int .i64 aw, .int .i64 ba, .int .i64 bc, .int .i64 ak] 44) (.cells #[.string at', .int .i64 aw, .int .i64 aa, .int .i64 ac, .int .i64 ak] 44)).mono HB3.out.size))
                obtain ⟨W2, hW2⟩ : ∃ W2, ((wr.alloc (.cells #[.string at', .int .i64 aw, .int .i64 ba, .int .i64 bc, .int .i64 ak] 44)).alloc (.cells #[.string at', .int .i64 aw, .int .i64 aa, .int .i64 ac, .int .i64 ak] 44)).drew = W2 := ⟨_, rfl⟩
                have y6 : W2.heap[wr.heap.size]? = some (.cells #[.string at', .int .i64 aw, .int .i64 ba, .int .i64 bc, .int .i64 ak] 44 (0, 0)) := by rw [← hW2]; exact x6'
                have y7 : W2.heap[wr.heap.size + 1]? = some (.cells #[.string at', .int .i64 aw, .int .i64 aa, .int .i64 ac, .int .i64 ak] 44 (0, 0)) := by rw [← hW2]; exact x7
                obtain ⟨a0, a1, a4⟩ : W2.cell? ⟨wr.heap.size + 1, 0, none⟩ = some (.string at') ∧ W2.cell? ⟨wr.heap.size + 1, 1, none⟩ = some (.int .i64 aw) ∧ W2.cell? ⟨wr.heap.size + 1, 4, none⟩ = some (.int .i64 ak) := by
                  refine ⟨?_, ?_, ?_⟩ <;> rw [cell_of_row _ _ _ _ _ _ y7] <;> rfl
                obtain ⟨b0, b1, b4⟩ : W2.cell? ⟨wr.heap.size, 0, none⟩ = some (.string at') ∧ W2.cell? ⟨wr.heap.size, 1, none⟩ = some (.int .i64 aw) ∧ W2.cell? ⟨wr.heap.size, 4, none⟩ = some (.int .i64 ak) := by
                  refine ⟨?_, ?_, ?_⟩ <;> rw [cell_of_row _ _ _ _ _ _ y6] <;> rfl
                rw [hW2] at HW ⊢
                clear x6 x7 x6' y6 y7 hW2
                go_wp2_with fail
                go_roundw
                case measure => have := HLJ.out; simp [intOf]; omega
                case rel => exact ⟨j + 1, by go_num, HLJ.out, HW⟩
            · obtain rfl : j = xl := by omega
              have k3 : ¬ (j : Int) < j := by omega
              have HB4 := Lib.hid (HB2Q.out.trans (HB3.out.mono HB2Q.out.size))
              clear hlj
              go_wp2_with fail
              go_roundw
              case measure => have := HLR2.out; simp [intOf]; omega
              case rel => exact ⟨r + 1, by go_num, HLR2.out, HB4⟩
        · obtain rfl : r = nl2 := by omega
          have k2 : ¬ (r : Int) < r := by omega
          have HBF := Lib.hid (HB12.out.trans (HB2.out.mono HB12.out.size))
          clear hlr x0 y0
          go_wp2_with fail
          go_ret
          exact ⟨rfl, HBF.out⟩
end Go.Proofs.YtjohhahfpgfjdaaGreatDoor.Tb
