/- What is proved: TableCells holds of all widths, every width and all flows: a row is its cells. -/
import Derived.Test.YtadecjjbpoaooaaVx
import Derived.Test.YtadecjjbpoaooaaVi
import Derived.Test.YtadecjjbpoaooaaPost
import Derived.ProofKit
import Derived.OpenShut
import Derived.Deep.DeepHandedRow
import Derived.Deep.RegionHeld3
import Derived.Deep.CutRange
namespace Go.Proofs.Ytadecjjbpoaooaa.tableCells
open Go.ChangeShapes Go.WideShapes Go.ChangeAt Go.RowKit Go.Maps Go.Proofs.Ytadecjjbpoaooaa.Tb
open Go.ChangeMaps (open_string shut_string)
set_option linter.unusedVariables false
set_option linter.unusedSimpArgs false
theorem S2n {a b : Addr} {x y : Value} {W w w' : World} (h : w.cell? a = some x ∧ w.cell? b = some y ∧ Below W.heap.size W w) (hb : Below w.heap.size w w') : w'.cell? a = some x ∧ w'.cell? b = some y ∧ Below W.heap.size W w' :=
  ⟨(hb.cell (cellInL h.1)).trans h.1, (hb.cell (cellInL h.2.1)).trans h.2.1, h.2.2.trans (hb.mono h.2.2.size)⟩
theorem S3n {a b c : Addr} {x y z : Value} {W w w' : World} (h : w.cell? a = some x ∧ w.cell? b = some y ∧ w.cell? c = some z ∧ Below W.heap.size W w) (hb : Below w.heap.size w w') : w'.cell? a = some x ∧ w'.cell? b = some y ∧ w'.cell? c = some z ∧ Below W.heap.size W w' :=
  ⟨(hb.cell (cellInL h.1)).trans h.1, (hb.cell (cellInL h.2.1)).trans h.2.1, (hb.cell (cellInL h.2.2.1)).trans h.2.2.1, h.2.2.2.trans (hb.mono h.2.2.2.size)⟩
set_option maxRecDepth 100000 in
set_option maxHeartbeats 8000000 in
theorem walk (v : Value) (ws : List Int) (x : Int) (u : Value) (fs : List (List Gl)) (W : World) (hR : RdZ (fun _ => True) W v ws) (hs : ws.length * 8 ≤ 140737488351232) (hx : (Lit.int .i64 x).wf = true)
    (hF : RdL (fun _ => True) W u fs) (hfs : fs.length * 24 ≤ 140737488351232 ∧ ∀ x ∈ fs, x.length * 48 ≤ 140737488351232) :
    Calls Try.prog 6 #[v, .int .i64 x, u] W fun e W' => e = .returned (.bool true) ∧ Below W.heap.size W W' := by
  obtain ⟨i0, hi0, hz0, hz1, hz2⟩ := info_parts infoI
  obtain ⟨E, hE⟩ : ∃ E, colsE ws x = E := ⟨_, rfl⟩
  obtain ⟨cs, hcs⟩ : ∃ cs, colsL ws x = cs := ⟨_, rfl⟩
  have HR := Lib.hid hR
  have HE := Lib.hid hE
  have HCS := Lib.hid hcs
  have HX := Lib.hid hx
  have HF := Lib.hid hF
  have HFS := Lib.hid hfs
  have M1 := Lib.hid (show 0 + ws.length ≤ maxLen by unfold maxLen; omega)
  have M2 := Lib.hid (show (0 + ws.length) * 8 ≤ 140737488355328 by omega)
  have HLI := Lib.hid hR.lies
  obtain ⟨pa, ca, rfl, _, _⟩ := sliceZ hR
  obtain ⟨pf, cf, rfl, hf1, hf2⟩ := hF.form
  obtain ⟨n, hn⟩ : ∃ n, ws.length = n := ⟨_, rfl⟩
  obtain ⟨N, hN⟩ : ∃ N, fs.length = N := ⟨_, rfl⟩
  have n62 : n ≤ 9223372036854775807 := by omega
  have N62 : N ≤ 9223372036854775807 := by unfold maxLen at hf2; omega
  have HN := Lib.hid hn
  have HNN := Lib.hid hN
  rw [hn] at HR M1 M2 HLI ⊢
  rw [hN] at HF hf1 ⊢
  have HCF := Lib.hid (show N ≤ cf from hf1)
  clear hR hF hfs hcs hE hs hx hn hN hf1 hf2
  go_enter Try.func6, Try.ntmps6
  go_wp2_with fail
  refine (awake_law W).mono ?_
  rintro e w1 ⟨rfl, b1⟩
  have B1 := Lib.hid b1
  have HL1 := Lib.hid (HLI.out.below b1)
  have E1 := Lib.hid (World.ownsRow_lit (e := 3) (size := 1) (base := w1.heap.size) w1 #[] 0 (Nat.le_refl _) (Nat.zero_le _) rfl)
  have E1s := Lib.hid (show w1.heap.size ≤ (w1.alloc (.cells #[] 3)).heap.size by simp)
  clear b1
  go_wp2_with (at_builtin; go_loud (refine wpList_append_lies' rfl _ _ 22 rfl w1.heap.size 3 i0 _ 1 8 Try.underlying22 hi0 hz0 hz1 hz2 rfl (by decide) _ _ _ rfl E1.out _ _ _ rfl (HL1.out.alloc _) M1.out M2.out E1s.out ?_); intro v5 w5 hown5 hg5; have HO5 := Lib.hid hown5; have B5 := Lib.hid (((Below.refl w1.heap.size w1).alloc (Nat.le_refl _) _).grown hg5 E1s.out (fun k hk => (E1.out.lt k hk).1)); clear hown5 hg5)
  have R5 : RdZ AnyB w5 v5 ws := any_z (RdZ.own (by simpa using HO5.out) (by rw [HN.out]))
  have B5W := Lib.hid (B1.out.trans (B5.out.mono B1.out.size))
  refine (columns_pro ws v5 x w5 R5 HX.out).mono ?_
  rintro e w6 ⟨v6, rfl, o6, b6⟩
  have B6 := Lib.hid (B5W.out.trans (b6.mono B5W.out.size))
  have R6 := Lib.hid (any_c o6)
  rw [HCS.out] at R6
  rw [HE.out]
  clear b6 o6 R5
  obtain ⟨p6, c6, rfl, hc1, hc2⟩ := sliceC R6.out
  obtain ⟨m, hm⟩ : ∃ m, cs.length = m := ⟨_, rfl⟩
  have HM := Lib.hid hm
  rw [hm] at R6 hc1 ⊢
  have m62 : m ≤ 9223372036854775807 := by omega
  have RF6 := Lib.hid (HF.out.below B6.out)
  clear hm hc1
  by_cases h0 : E = 0
  · subst h0
    by_cases hNm : N < m
    · have d1 : decide ((N : Int) < m) = true := decide_eq_true (by omega)
      have d2 : decide (N < m) = true := decide_eq_true hNm
      clear HCF
      go_wp2_with fail
      go_ret
      exact ⟨rfl, B6.out⟩
    · have d1 : decide ((N : Int) < m) = false := decide_eq_false (by omega)
      have d2 : decide (N < m) = false := decide_eq_false hNm
      have hAP := apart_of HE.out
      rw [HCS.out] at hAP
      have HFC := Lib.hid (show FromC 0 cs by have := cols_from HE.out; rw [HCS.out] at this; exact this)
      have HNNE := Lib.hid (from_nn cs 0 (Int.le_refl 0) HFC.out)
      have HCB := Lib.hid (show ∀ c ∈ cs, c.1 + c.2 ≤ 102000 ∧ 0 ≤ c.2 ∧ c.2 ≤ 100000 ∧ c.1 ≤ 100000 from fun c hc => by
        obtain ⟨k, hk, rfl⟩ := List.mem_iff_getElem.1 hc
        have := hAP.col k hk
        omega)
      have hm8 : m ≤ 8 := by rw [← HM.out, hAP.num]; exact hAP.le
      have hm1 : 1 ≤ m := by rw [← HM.out, hAP.num]; exact (colsE_zero HE.out).2.1.1
      have hcut := RF6.out.take m (by omega)
      obtain ⟨gs, hgs⟩ : ∃ gs, fs.take m = gs := ⟨_, rfl⟩
      rw [hgs] at hcut
      have RG6 := Lib.hid hcut
      have hgl : gs.length = m := by rw [← hgs, List.length_take, HNN.out]; omega
      have HGL := Lib.hid hgl
      have HGF := Lib.hid (show ∀ f ∈ gs, f.length * 48 ≤ 140737488351232 from fun f hf => HFS.out.2 f (by rw [← hgs] at hf; exact List.mem_of_mem_take hf))
      have S1 := Lib.hid (show gs.length * 24 ≤ 140737488355328 by rw [hgl]; omega)
      have S2 := Lib.hid (show ∀ x ∈ gs, x.length * 48 ≤ 140737488355328 from fun x hx => by have := HGF.out x hx; omega)
      have S3 := Lib.hid (show ∀ x ∈ gs, (x.length + 1) * 48 ≤ 140737488355328 from fun x hx => by have := HGF.out x hx; omega)
      have mcf : m ≤ cf := by have := HCF.out; omega
      have mcfi : (m : Int) ≤ cf := by omega
      clear hcut hgs hgl hAP hNm
      go_wp2_with fail
      refine (twins_law gs _ w6 RG6.out S1.out S2.out).mono ?_
      rintro e w7 ⟨v7, vs7, rfl, o7, b7⟩
      have R7 := Lib.hid (any_l o7.rd)
      have R67 := Lib.hid (R6.out.below b7)
      have RG7 := Lib.hid (RG6.out.below b7)
      have B7 := Lib.hid (B6.out.trans (b7.mono B6.out.size))
      clear o7 b7
      go_wp2_with fail
      refine (row_pro cs gs _ v7 w7 R67.out R7.out S3.out).mono ?_
      rintro e w8 ⟨v8, rfl, o8, b8⟩
      have R8 := Lib.hid (any_l o8)
      have R68 := Lib.hid (R67.out.below b8)
      have RG8 := Lib.hid (RG7.out.below b8)
      have B8 := Lib.hid (B7.out.trans (b8.mono B7.out.size))
      clear o8 b8
      obtain ⟨E2, hE2⟩ : ∃ E2, rowE cs gs = E2 := ⟨_, rfl⟩
      have HE2 := Lib.hid hE2
      obtain ⟨rs, hrs⟩ : ∃ rs, rowL cs gs = rs := ⟨_, rfl⟩
      have HRS := Lib.hid hrs
      rw [hE2]
      rw [hrs] at R8
      obtain ⟨p8, c8, rfl, h81, h82⟩ := R8.out.form
      obtain ⟨q, hq⟩ : ∃ q, rs.length = q := ⟨_, rfl⟩
      have HQ := Lib.hid hq
      rw [hq] at R8 h81 ⊢
      have q62 : q ≤ 9223372036854775807 := by unfold maxLen at h82; omega
      clear hE2 hrs hq h81 h82
      by_cases he2 : E2 = 0
      · subst he2
        have HSL := Lib.hid (show ∀ r ∈ rs, LineOk 102000 r by have := row_small HFC.out HE2.out (fun c hc => (HCB.out c hc).1); rw [HRS.out] at this; exact this)
        have HCE := Lib.hid (fun i (h1 : i < cs.length) (h2 : i < gs.length) => cells_row (Int.le_refl 0) HFC.out HE2.out h1 h2)
        rw [HRS.out] at HCE
        go_wp2_with fail
        go_loopw [10] (fun i wr => ∃ k : Nat, i = .int .i64 k ∧ k ≤ m ∧ Hid (Below w8.heap.size w8 wr)) (fun i _ => m - (intOf i).toNat)
        case atStart => exact ⟨0, rfl, Nat.zero_le _, Lib.hid (Below.refl _ _)⟩
        case round =>
          obtain ⟨wo, rfl⟩ : ∃ wo : World, wo = wr := ⟨wr, rfl⟩
          obtain ⟨i, rfl, hi, HB⟩ := hrel
          by_cases hlt : i < m
          · have i1 : (i : Int) < m := by omega
            have HLT := Lib.hid hlt
            have h1 : i < cs.length := by rw [HM.out]; exact hlt
            have h2 : i < gs.length := by rw [HGL.out]; exact hlt
            obtain ⟨c1, c2, c3⟩ := HCE.out i h1 h2
            have HC1 := Lib.hid c1
            have HC2 := Lib.hid c2
            have HC3 := Lib.hid c3
            have hcb := HCB.out _ (List.getElem_mem h1)
            have hcn := HNNE.out _ (List.getElem_mem h1)
            have hgf := HGF.out _ (List.getElem_mem h2)
            obtain ⟨bf, of, pz, cz, hpf, _, f0, f1, f2, hfl⟩ := (RG8.out.below HB.out).at_ h2
            cases hpf
            obtain ⟨bc, oc, hpc, _, d0, d1⟩ := (R68.out.below HB.out).cell h1
            cases hpc
            obtain ⟨f, hf⟩ : ∃ f, gs[i] = f := ⟨_, rfl⟩
            rw [hf] at f0 f1 hfl hgf HC1 HC2 HC3
            obtain ⟨c, hc⟩ : ∃ c, cs[i] = c := ⟨_, rfl⟩
            rw [hc] at d0 d1 hcb hcn HC1 HC2 HC3
            have HFL := Lib.hid hfl
            obtain ⟨fl, hfln⟩ : ∃ fl, f.length = fl := ⟨_, rfl⟩
            rw [hfln] at f0 f1 HFL hgf
            have HFN := Lib.hid hfln
            have T1 := Lib.hid (show f.length * 48 ≤ 140737488355328 by rw [hfln]; omega)
            have T2 := Lib.hid (show (f.length + 1) * 24 ≤ 140737488355328 by rw [hfln]; omega)
            have fl62 : fl ≤ 9223372036854775807 := by omega
            obtain ⟨ls, hls⟩ : ∃ ls, fillL c.2 f = ls := ⟨_, rfl⟩
            have HLS := Lib.hid hls
            rw [hls] at HC2 HC3
            have hcb1 := hcb.2.1
            have hcb2 := hcb.2.2.1
            have hcb3 := hcb.2.2.2
            obtain ⟨cx, cy⟩ := c
            dsimp only at d0 d1 hcb hcb1 hcb2 hcb3 hcn HC1 HC2 HC3 HLS
            clear c1 c2 c3 hlt h1 h2 hf hc hfln hls hcb hfl
            go_upto_region 13 with fail
            go_region_held3 (fun w' => w'.cell? ⟨bf, of + i, none⟩ = some (.slice pz fl cz) ∧ w'.cell? ⟨bc, oc + i * 2 + 1, none⟩ = some (.int .i64 cy) ∧ Below wo.heap.size wo w')
              (first | exact ⟨f0, d1, (Below.refl _ _).drew⟩ | exact S2n (by assumption) h8 | assumption)
              ((first
                | (go_at_call 12; refine (twin_law f _ _ (HFL.out.below ((by assumption : _ ∧ _ ∧ Below wo.heap.size wo _).2.2)) T1.out).mono ?_; rintro e w10 ⟨v10, rfl, o10, h8⟩; have R10 := Lib.hid (any_own o10))
                | (go_at_call 11; refine (fill_pro cy f _ _ R10.out T2.out).mono ?_; rintro e w11 ⟨v11, rfl, o11, h8⟩; rw [HC1.out]; have R11 := Lib.hid (any_l o11))))
            have hS9 := (by assumption : w11.cell? ⟨bf, of + i, none⟩ = some (.slice pz fl cz) ∧ w11.cell? ⟨bc, oc + i * 2 + 1, none⟩ = some (.int .i64 cy) ∧ Below wo.heap.size wo w11)
            have HB11 := Lib.hid hS9.2.2
            have e1 := hS9.2.1
            have e0 := (hS9.2.2.cell (p := ⟨bc, oc + i * 2, none⟩) (cellInL d0)).trans d0
            rw [HLS.out] at R11
            clear hS9 d0 d1 f0 o10 o11
            have R8b := Lib.hid ((R8.out.below HB.out).below HB11.out)
            obtain ⟨p11, c11, rfl, k1, k2⟩ := R11.out.form
            obtain ⟨ln, hln⟩ : ∃ ln, ls.length = ln := ⟨_, rfl⟩
            have HLN := Lib.hid hln
            rw [hln] at R11 HC2 HC3 k1 ⊢
            rw [HQ.out] at HC2 HC3
            have ln62 : ln ≤ 9223372036854775807 := by unfold maxLen at k2; omega
            have lq := HC2.out
            have dg : decide ((q : Int) < ln) = false := decide_eq_false (by omega)
            have dg2 : decide (q < ln) = false := decide_eq_false (by omega)
            have dg3 : decide ((ln : Int) > q) = false := decide_eq_false (by omega)
            clear hln k1 k2
            go_wp2_with fail
            go_loopw [13] (fun kv wr => ∃ k : Nat, kv = .int .i64 k ∧ k ≤ q ∧ Hid (Below w11.heap.size w11 wr)) (fun kv _ => q - (intOf kv).toNat)
            case atStart => exact ⟨0, rfl, Nat.zero_le _, Lib.hid (Below.refl _ _)⟩
            case round =>
              obtain ⟨wi, rfl⟩ : ∃ wi : World, wi = wr := ⟨wr, rfl⟩
              obtain ⟨k, rfl, hk, HBI⟩ := hrel
              by_cases hkq : k < q
              · have k1 : (k : Int) < q := by omega
                have HKQ := Lib.hid hkq
                have hkr : k < rs.length := by rw [HQ.out]; exact hkq
                obtain ⟨br, or, pr, cr, hpr, _, r0, r1, r2, hrl⟩ := (R8b.out.below HBI.out).at_ hkr
                cases hpr
                have hsl := HSL.out _ (List.getElem_mem hkr)
                have hc3 := HC3.out k hkq
                have hgr : rs.getD k [] = rs[k] := by simp [List.getD_eq_getElem?_getD, hkr]
                rw [hgr] at hc3
                obtain ⟨r, hr⟩ : ∃ r, rs[k] = r := ⟨_, rfl⟩
                rw [hr] at r0 r1 hrl hsl hc3
                have hrle := Int.le_trans (wid_ge r hsl.1).1 hsl.2
                have SM := Lib.hid (show SmallW r from fun g hg => by have := hsl.1 g hg; omega)
                have HC5 := Lib.hid hc3
                have HRL := Lib.hid hrl
                obtain ⟨rl, hrll⟩ : ∃ rl, r.length = rl := ⟨_, rfl⟩
                have HRN := Lib.hid (show r.length ≤ 1000000 by omega)
                rw [hrll] at r0 r1 HRL hrle
                have rl62 : rl ≤ 9223372036854775807 := by omega
                have g0 := (HBI.out.cell (p := ⟨bc, oc + i * 2, none⟩) (cellInL e0)).trans e0
                have g1 := (HBI.out.cell (p := ⟨bc, oc + i * 2 + 1, none⟩) (cellInL e1)).trans e1
                have A1 := Lib.hid (show 0 ≤ cx ∧ cx ≤ 100000 from ⟨hcn, hcb3⟩)
                have A2 := Lib.hid (show 0 ≤ cy ∧ cy ≤ 100000 from ⟨hcb1, hcb2⟩)
                obtain ⟨wl, hwl⟩ : ∃ wl, (if k < ln then trimM (ls.getD k []) else []) = wl := ⟨_, rfl⟩
                rw [hwl] at HC5 hc3
                have HWL := Lib.hid hwl
                clear hkr hr hsl hc3 hgr hrl hrll hkq hwl
                go_upto_if 90 with fail
                go_cut [14] from 81 to 113 (fun s14 wx => Hid (RdG AnyB wx s14 wl) ∧ Hid (Below wi.heap.size wi wx))
                case first =>
                  by_cases hkl : k < ln
                  · have kl : (k : Int) < ln := by omega
                    have hkll : k < ls.length := by rw [HLN.out]; exact hkl
                    obtain ⟨bt, ot, pt, ct, hpt, _, t0, t1, t2, htl⟩ := ((R11.out.below HBI.out)).at_ hkll
                    cases hpt
                    have hw2 : trimM ls[k] = wl := by
                      have := HWL.out
                      rw [if_pos hkl, List.getD_eq_getElem?_getD, List.getElem?_eq_getElem hkll] at this
                      exact this
                    have HTL := Lib.hid (trimmed_law _ _ wi htl)
                    rw [hw2] at HTL
                    obtain ⟨tn, htn⟩ : ∃ tn, ls[k].length = tn := ⟨_, rfl⟩
                    rw [htn] at t0 t1 HTL
                    have tn62 : tn ≤ 9223372036854775807 := by unfold maxLen at t2; omega
                    clear htl hw2 htn hkll hkl t1 t2
                    go_wp2_with fail
                    refine HTL.out.mono ?_
                    rintro e w12 ⟨v12, rfl, h12, b12⟩
                    have H12 := Lib.hid (any_g h12)
                    have BB12 := Lib.hid b12
                    clear h12 b12
                    go_wp2_with fail
                    go_meet
                    case rel => exact ⟨H12, BB12⟩
                  · have kl : ¬ (k : Int) < ln := by omega
                    have hw2 : [] = wl := by
                      have := HWL.out
                      rw [if_neg hkl] at this
                      exact this
                    have HW2 := Lib.hid hw2
                    clear hkl hw2
                    go_wp2_with fail
                    go_meet
                    case rel => exact ⟨Lib.hid (by rw [← HW2.out]; exact RdG.nil _ 0 (by unfold maxLen; omega) _), Lib.hid (Below.refl _ _)⟩
                case rest =>
                  obtain ⟨HG, HBC⟩ := hcut
                  have g2 := (HBC.out.cell (p := ⟨bc, oc + i * 2, none⟩) (cellInL g0)).trans g0
                  have g3 := (HBC.out.cell (p := ⟨bc, oc + i * 2 + 1, none⟩) (cellInL g1)).trans g1
                  have r3 := (HBC.out.cell (p := ⟨br, or + k, none⟩) (cellInL r0)).trans r0
                  have HRL2 := Lib.hid (HRL.out.below HBC.out)
                  have HBX := Lib.hid (HBI.out.trans (HBC.out.mono HBI.out.size))
                  obtain ⟨pg, cg, rfl, _, _⟩ := HG.out.form
                  clear g0 g1 r0
                  go_upto_region 22 with fail
                  go_region_held3 (fun w' => w'.cell? ⟨br, or + k, none⟩ = some (.slice pr rl cr) ∧ w'.cell? ⟨bc, oc + i * 2, none⟩ = some (.int .i64 cx) ∧ w'.cell? ⟨bc, oc + i * 2 + 1, none⟩ = some (.int .i64 cy) ∧ Below wc.heap.size wc w')
                    (first | exact ⟨r3, g2, g3, (Below.refl _ _).drew⟩ | exact S3n (by assumption) h8 | assumption)
                    ((first
                      | (go_at_call 22; refine (piece_law r _ cx cy _ (HRL2.out.below ((by assumption : _ ∧ _ ∧ _ ∧ Below wc.heap.size wc _).2.2.2)) HRN.out SM.out A1.out A2.out).mono ?_; rintro e w13 ⟨v13, rfl, o13, h8⟩; rw [HC5.out] at o13; have R13 := Lib.hid o13)
                      | (go_at_call 16; refine (same_ref wl _ _ _ R13.out (HG.out.below ((by assumption : _ ∧ _ ∧ _ ∧ Below wc.heap.size wc _).2.2.2))).mono ?_; rintro e w14 ⟨rfl, h8⟩)))
                  have hS9 := (by assumption : w14.cell? ⟨br, or + k, none⟩ = some (.slice pr rl cr) ∧ w14.cell? ⟨bc, oc + i * 2, none⟩ = some (.int .i64 cx) ∧ w14.cell? ⟨bc, oc + i * 2 + 1, none⟩ = some (.int .i64 cy) ∧ Below wc.heap.size wc w14)
                  have HBY := Lib.hid (HBX.out.trans (hS9.2.2.2.mono HBX.out.size))
                  clear hS9 r3 g2 g3
                  go_wp2_with fail
                  go_roundw
                  case measure => have := HKQ.out; simp [intOf]; omega
                  case rel => exact ⟨k + 1, by go_num, HKQ.out, HBY⟩
              · obtain rfl : k = q := by omega
                have hzq : ¬ (k : Int) < k := by omega
                have HBZ := Lib.hid (HB.out.trans ((HB11.out.trans (HBI.out.mono HB11.out.size)).mono HB.out.size))
                clear hkq
                go_wp2_with fail
                go_roundw
                case measure => have := HLT.out; simp [intOf]; omega
                case rel => exact ⟨i + 1, by go_num, HLT.out, HBZ⟩
          · obtain rfl : i = m := by omega
            have hzi : ¬ (i : Int) < i := by omega
            by_cases hone : i = 1
            · have t1 : ((i : Int) != 1) = false := by simp; omega
              have t2 : 0 < i := by omega
              have t3 : (0 : Int) < i := by omega
              have h1 : 0 < cs.length := by rw [HM.out]; exact t2
              have h2 : 0 < gs.length := by rw [HGL.out]; exact t2
              obtain ⟨z, hz⟩ : ∃ z, cs = [(0, z)] := by
                have := cols_one (ws := ws) (x := x) (by rw [HCS.out, HM.out]; exact hone)
                rw [HCS.out] at this
                exact this
              obtain ⟨f, hf⟩ : ∃ f, gs = [f] := by
                have hl := HGL.out
                match gs, hl with
                | [f], _ => exact ⟨f, rfl⟩
                | [], hl => simp at hl; omega
                | _ :: _ :: _, hl => simp at hl; omega
              have hro : fillL z f = rs := by
                have := HE2.out
                rw [hz, hf] at this
                rw [← HRS.out, hz, hf, row_one this]
              have hzr : fillE z f = 0 := by
                have := HE2.out
                rw [hz, hf] at this
                exact errF_at _ _ (rowE_ok this).2 0 (by simp) (by simp)
              have HRO := Lib.hid hro
              have HZR := Lib.hid hzr
              have hgf := HGF.out f (by rw [hf]; simp)
              obtain ⟨bf, of, pz, cz, hpf, _, f0, f1, f2, hfl⟩ := (RG8.out.below HB.out).at_ h2
              cases hpf
              obtain ⟨bc, oc, hpc, _, d0, d1⟩ := (R68.out.below HB.out).cell h1
              cases hpc
              have hg0 : gs[0] = f := by simp [hf]
              have hc0 : cs[0] = (0, z) := by simp [hz]
              rw [hg0] at f0 f1 hfl
              rw [hc0] at d1
              rw [Nat.add_zero] at f0
              rw [Nat.zero_mul, Nat.add_zero] at d1
              dsimp only at d1
              have HFL := Lib.hid hfl
              obtain ⟨fl, hfln⟩ : ∃ fl, f.length = fl := ⟨_, rfl⟩
              rw [hfln] at f0 f1 HFL hgf
              have T1 := Lib.hid (show f.length * 48 ≤ 140737488355328 by rw [hfln]; omega)
              have T2 := Lib.hid (show (f.length + 1) * 24 ≤ 140737488355328 by rw [hfln]; omega)
              have fl62 : fl ≤ 9223372036854775807 := by omega
              have R8b := Lib.hid (R8.out.below HB.out)
              have HBB := Lib.hid (B8.out.trans (HB.out.mono B8.out.size))
              clear h1 h2 hz hf hro hzr hfl hg0 hc0 hfln d0 hone hlt
              go_upto_region 26 with fail
              go_region_held3 (fun w' => w'.cell? ⟨bf, of, none⟩ = some (.slice pz fl cz) ∧ w'.cell? ⟨bc, oc + 1, none⟩ = some (.int .i64 z) ∧ Below wo.heap.size wo w')
                (first | exact ⟨f0, d1, (Below.refl _ _).drew⟩ | exact S2n (by assumption) h8 | assumption)
                ((first
                  | (go_at_call 12; refine (twin_law f _ _ (HFL.out.below ((by assumption : _ ∧ _ ∧ Below wo.heap.size wo _).2.2)) T1.out).mono ?_; rintro e w10 ⟨v10, rfl, o10, h8⟩; have R10 := Lib.hid (any_own o10))
                  | (go_at_call 11; refine (fill_pro z f _ _ R10.out T2.out).mono ?_; rintro e w11 ⟨v11, rfl, o11, h8⟩; rw [HZR.out]; have R11 := Lib.hid (any_l o11))))
              have hS9 := (by assumption : w11.cell? ⟨bf, of, none⟩ = some (.slice pz fl cz) ∧ w11.cell? ⟨bc, oc + 1, none⟩ = some (.int .i64 z) ∧ Below wo.heap.size wo w11)
              have HB11 := Lib.hid hS9.2.2
              rw [HRO.out] at R11
              have R8c := Lib.hid (R8b.out.below HB11.out)
              have HBC := Lib.hid (HBB.out.trans (HB11.out.mono HBB.out.size))
              clear hS9 d1 f0 o10 o11
              go_wp2_with fail
              refine (sameAll_ref rs _ _ w11 R11.out R8c.out).mono ?_
              rintro e w12 ⟨rfl, b12⟩
              have B12 := Lib.hid (HBC.out.trans (b12.mono HBC.out.size))
              clear b12
              go_wp2_with fail
              go_ret
              exact ⟨rfl, B12.out⟩
            · have t1 : ((i : Int) != 1) = true := by simp; omega
              clear hlt
              go_wp2_with fail
              go_ret
              exact ⟨rfl, B8.out.trans (HB.out.mono B8.out.size)⟩
      · have tE : (E2 != 0) = true := by simp [he2]
        obtain rfl : q = 0 := by
          rw [← HQ.out, ← HRS.out]
          unfold rowL
          rw [if_neg (by rw [HE2.out]; exact he2)]
          rfl
        go_wp2_with fail
        go_ret
        exact ⟨rfl, B8.out⟩
  · have tE : (E != 0) = true := by simp [h0]
    go_wp2_with fail
    go_ret
    exact ⟨rfl, B6.out⟩

set_option maxRecDepth 100000 in
theorem contract (H : Type) (enc : TypeId × Value → H) (W : World) (base : Nat) (args : Array Value) (ds gs : List (DataW H)) (before : List MemPlace)
    (hval : ∀ (j : Nat) t v, Try.f6.params[j]? = some t → args[j]? = some v → Value.okWide Try.prog W .any base t v)
    (hW : DataW.Whole enc Try.prog Try.f6.params.toList Rows.tableCellsSpec.vars false W args.toList ds gs before) (hsz0 : (DataW.weightsEach Try.prog (Try.f6.params.toList ++ Rows.tableCellsSpec.plain.varTypes Try.prog) (ds ++ gs)).all (· ≤ reachBytes) = true) :
    Calls Try.prog 6 args W fun e W' => ∃ v, e = .returned v ∧ Rows.tableCellsSpec.post enc Try.prog Try.f6 false true false false W args v W' := by
  have hW' := hW
  obtain ⟨p, q, hA0, hV, rfl, hfz, hnd⟩ := hW
  have hA : DataW.TrodAll enc Try.prog W 0 (fun _ => true) true Try.f6.params.toList args.toList ds p := hA0
  rw [Try.params6] at hA hval
  have hsz := hsz0
  rw [Try.params6] at hsz
  clear hsz0
  obtain ⟨v0, vs0, d0, ds0, p0, q0, hargs, rfl, rfl, h0, r0⟩ := trodAll_cons hA
  obtain ⟨v1, vs1, d1, ds1, p1, q1, rfl, rfl, rfl, h1, r1⟩ := trodAll_cons r0
  obtain ⟨v2, vs2, d2, ds2, p2, q2, rfl, rfl, rfl, h2, r2⟩ := trodAll_cons r1
  obtain ⟨rfl, rfl, rfl⟩ := trodAll_nil r2
  obtain rfl : args = #[v0, v1, v2] := by cases args; simp_all
  obtain ⟨rfl, rfl⟩ := trodVars_none hV
  have hk0 := h0
  obtain ⟨l0, hR0, hD0⟩ := ints_read h0 (okWide_slice Try.underlying22 (hval 0 22 v0 rfl rfl))
  obtain ⟨a1, rfl, rfl, rfl, w1⟩ := open_int Try.underlying3 (hval 1 3 v1 rfl rfl) h1
  have hk2 := h2
  obtain ⟨l2, hR2, hD2⟩ := lists_read h2 (okWide_slice Try.underlying33 (hval 2 33 v2 rfl rfl))
  clear hA0
  have size0 := ints_reach hsz (j := 0) rfl rfl hD0
  have size2 := lists_reach hsz (j := 2) rfl rfl hD2
  refine (walk v0 l0 a1 v2 l2 W hR0 size0 w1 hR2 size2).mono fun e W' ⟨he, hg⟩ => ?_
  subst he
  have hlt := hW'.lt
  exact ⟨_, rfl, post_of_below (pa := (p0 ++ ([] ++ (p2 ++ [])))) (pv := []) hW' (fun _ _ _ => trodAll_cons_mk (shut_bool Try.underlying4 _) trodAll_mk0) (fun sp hsp => (trodAll_cons_mk (Go.WideElems.Trod_stays (by kernel_rfl) (by kernel_rfl) (of_decide_eq_true (by kernel_rfl)) hk0 (fun p hp => hg.same (hlt p (by simp [hp]))) (fun p hp => hsp p (by simp [hp]))) (trodAll_cons_mk (shut_int Try.underlying3 w1) (trodAll_cons_mk (Go.WideElems.Trod_stays (by kernel_rfl) (by kernel_rfl) (of_decide_eq_true (by kernel_rfl)) hk2 (fun p hp => hg.same (hlt p (by simp [hp]))) (fun p hp => hsp p (by simp [hp]))) trodAll_mk0)))) (fun _ _ => rfl) rfl hg (ok_one (by kernel_rfl) rfl (okWide_bool_mk Try.underlying4 _))⟩

theorem witness_row (os : Os) {H : Type} (enc : TypeId × Value → H) :
    (OpenSpec.ofChange Rows.tableCellsSpec).preRow enc Try.prog Try.f6 Rows.tableCellsRow.domain false Rows.tableCellsRow.laid ((laidWorld os).forCall (fun _ _ => 0) ⟨#[], #[.slice none 0 0, .int .i64 0, .slice none 0 0], []⟩).memory #[.slice none 0 0, .int .i64 0, .slice none 0 0] := by
  have hw : (DataW.whole enc Try.prog ((laidWorld os).forCall (fun _ _ => 0) ⟨#[], #[.slice none 0 0, .int .i64 0, .slice none 0 0], []⟩).memory Try.f6.params.toList Rows.tableCellsSpec.vars false (#[.slice none 0 0, .int .i64 0, .slice none 0 0] : Array Value).toList 8).map (fun x => (x.1, x.2.1)) =
      some ([.nil, .lit (.int .i64 0), .nil], []) := by kernel_rfl
  obtain ⟨⟨x1, x2, x3⟩, hx, hx1⟩ := Option.map_eq_some_iff.1 hw
  simp only [Prod.mk.injEq] at hx1
  obtain ⟨rfl, rfl⟩ := hx1
  exact OpenSpec.preRow_of_cond 8 hx (by kernel_rfl) (fun k hk => by cases hk) (by kernel_rfl) (laid_met _)

set_option maxRecDepth 100000 in
theorem lifted (os : Os) (started : os.Started) (H : Type) (enc : TypeId × Value → H) (F : Stop.Interp) :
    ReturnsInHanded {} Try.checked os 6 .any ((OpenSpec.ofChange Rows.tableCellsSpec).preRow enc Try.prog Try.f6 Rows.tableCellsRow.domain false Rows.tableCellsRow.laid) (((OpenSpec.ofChange Rows.tableCellsSpec).at F).post enc Try.prog Try.f6 false true false false) := by
  refine returnsInHanded_of_row (C := Try.checked) (s := (OpenSpec.ofChange Rows.tableCellsSpec)) own started (by kernel_rfl) Try.func6
    (witness_row_at (enc := enc) (C := Try.checked) false (laidWorld os) #[.slice none 0 0, .int .i64 0, .slice none 0 0] rfl (by kernel_rfl) (by kernel_rfl) (by kernel_rfl) (witness_row os enc)) ?_
  intro W base args ds gs before hval hW _ hcond hsz hL hS _
  exact contract H enc W base args ds gs before hval hW hsz

set_option maxHeartbeats 16000000 in
theorem closed : joinedFacts Try.pinned.checked.prog 6 Try.f6 ((OpenSpec.ofChange Rows.tableCellsSpec)).bare Rows.tableCellsRow = true := by
  unfold joinedFacts
  repeat' (with_reducible refine Bool.and_eq_true_iff.2 ⟨?_, ?_⟩)
  all_goals (as_aux_lemma => kernel_rfl)
theorem named : Try.pinned.checked.prog.funcNamed Rows.tableCellsRow.func = some 6 := by kernel_rfl
theorem inst : (Try.f6).isInstance Try.pinned.checked.prog Rows.tableCellsRow.origin Rows.tableCellsRow.targs := of_decide_eq_true (by kernel_rfl)
theorem wrap : (Try.f6).isWrapper Try.pinned.checked.prog Rows.tableCellsRow.wrapper Rows.tableCellsRow.mainSum := by
  unfold Func.isWrapper
  first | (rw [if_pos (by decide +kernel)]; kernel_rfl) | (rw [if_neg (by decide +kernel)]; exact ⟨rfl, rfl⟩)
theorem row : Rows.TableCellsSaid :=
  OpenClaim.holds_of_cond 6 Try.f6 rfl rfl rfl rfl rfl rfl rfl ⟨rfl, rfl, rfl, rfl, rfl⟩ rfl rfl rfl rfl rfl named Try.func6 closed inst wrap
    (fun os started H enc _ F => by rw [OpenClaim.pre_eq_preRow]; exact lifted os started H enc F)

theorem proved : Rows.TableCellsSaid := row
end Go.Proofs.Ytadecjjbpoaooaa.tableCells
