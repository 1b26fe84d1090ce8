/- The document's Parse. -/
import Derived.Test.YtceanagnkcejgaaGreatDoorDw
import Derived.Test.YtceanagnkcejgaaGreatDoorDb
import Derived.Test.YtceanagnkcejgaaGreatDoorPar
namespace Go.Proofs.YtceanagnkcejgaaGreatDoor
open Go.RowKit
set_option linter.unusedVariables false

theorem sb_set {w : World} {b k : Nat} {s s' : Sty} (h : SBox w b s) (u : Value) (he : (styCells s).setIfInBounds k u = styCells s') : SBox (w.setCell ⟨b, k, none⟩ u) b s' := by
  have h3 := heap_setCell_same w b k _ _ u h
  rw [he] at h3
  exact h3
theorem prs_bad {x : List UInt8} {r : List (List UInt8)} {c : Chg} (hx : ¬ x = colorW) (h : chg1 c x = none) : prs (x :: r) c = none := by
  cases r with
  | nil => simp only [prs, if_neg hx]; exact h
  | cons n r => simp only [prs, if_neg hx, h]
theorem prs_color {n : List UInt8} {r : List (List UInt8)} {c : Chg} (hc : c.col = -1) : prs (colorW :: n :: r) c = (match colOf n with
    | none => none
    | some k => prs r ⟨c.on, c.off, (k : Int)⟩) := by
  simp only [prs, if_pos hc, if_true]
  cases colOf n <;> rfl
theorem prs_colno {r : List (List UInt8)} {c : Chg} (h : ¬ c.col = -1 ∨ r = []) : prs (colorW :: r) c = none := by
  cases r with
  | nil => simp [prs]
  | cons n r =>
    rcases h with h | h
    · simp [prs, h]
    · cases h
/-- What is told of the words behind the first. -/
def prsR (w : List UInt8) (r : List (List UInt8)) : Option Chg := if (nmQ w).2.2 then prs r none0 else none
theorem parse_by {t w : List UInt8} {r : List (List UInt8)} (h : ¬ 4096 < t.length) (h2 : wordsL t = w :: r) : parseM t = (match prsR w r with
    | none => (zeroS, 67)
    | some c => (⟨(nmQ w).1, (nmQ w).2.1, c⟩, 0)) := by
  unfold parseM
  rw [if_neg h, h2]
  unfold parseW prsR
  simp only [nmQ_is]
  by_cases hq : (nmQ w).2.2 = true
  · simp only [hq, if_true]
    cases prs r none0 <;> rfl
  · simp only [hq]
    rfl

set_option maxRecDepth 100000 in
set_option maxHeartbeats 16000000 in
theorem Parse_ref (t : List UInt8) (w : World) (hT : Tabs w) (ht : t.length ≤ 9223372036854775807) :
    Calls Tryz.prog 25 #[.string (bs t)] w (Says (pzV (parseM t)) w) := by
  have hA := (Below.refl _ w).alloc (Nat.le_refl _) (.cells #[.string ⟨#[]⟩, .string ⟨#[]⟩, .int .i64 0, .int .i64 0, .int .i64 0] 29)
  have HA := Lib.hid hA
  have hX : SBox (w.alloc (.cells #[.string ⟨#[]⟩, .string ⟨#[]⟩, .int .i64 0, .int .i64 0, .int .i64 0] 29)) w.heap.size zeroS := heap_alloc_new w (.cells #[.string ⟨#[]⟩, .string ⟨#[]⟩, .int .i64 0, .int .i64 0, .int .i64 0] 29)
  have HX := Lib.hid hX
  have HT := Lib.hid hT
  have hz := bs_len t
  clear hA hX hT
  by_cases h4 : 4096 < t.length
  · have HV := Lib.hid (parse_long h4)
    have h4' : (4096 : Int) < t.length := by omega
    clear h4
    go_enter Tryz.func25, Tryz.ntmps25
    go_wp2_with fail
    rw [HV.out]
    exact bodyPost_ret (v := pzV (zeroS, 2)) (by simp [results, Tryz.results25, go_sem, pzV, styVal, zeroS, zeroC, bs]) rfl ⟨rfl, HA.out⟩
  have h4' : ¬ (4096 : Int) < t.length := by omega
  have HW := Lib.hid (words_ref t (w.alloc (.cells #[.string ⟨#[]⟩, .string ⟨#[]⟩, .int .i64 0, .int .i64 0, .int .i64 0] 29)) (by omega))
  have HH := Lib.hid h4
  have HO := Lib.hid (@wordsL_ok t)
  have HOL := Lib.hid (wordsL_len t)
  clear h4
  cases hws : wordsL t with
  | nil =>
    have HV := Lib.hid (parse_nil HH.out hws)
    rw [hws] at HW
    clear hws
    go_enter Tryz.func25, Tryz.ntmps25
    go_wp2_with fail
    refine HW.out.mono ?_
    rintro e w1 ⟨v, rfl, hr, hb⟩
    obtain ⟨pa, cap, rfl, _, _⟩ := hr.form
    have HB1 := Lib.hid (HA.out.trans (hb.mono HA.out.size))
    have hx := HX.out.keep hb
    have HX1 := Lib.hid hx
    obtain ⟨c0, c1, c2, c3, c4⟩ := hx.get
    have z0 := hx.free 0
    have z1 := hx.free 1
    have z2 := hx.free 2
    have z3 := hx.free 3
    have z4 := hx.free 4
    clear hr hb hx
    go_wp2_with fail
    obtain ⟨W, hW, hr, k0, k1, k2, k3, k4, hbW⟩ := set5c (HX1.out) (.string ⟨#[]⟩) (.string ⟨#[]⟩) (.int .i64 0) (.int .i64 0) (.int .i64 0)
    rw [hW, HV.out]
    exact bodyPost_ret (v := pzV (zeroS, 67)) (by simp [results, Tryz.results25, go_sem, k0, k1, k2, k3, k4, pzV, styVal, zeroS, zeroC, bs]) rfl ⟨rfl, HB1.out.trans hbW⟩
  | cons x0 r0 =>
    have HV := Lib.hid (parse_by HH.out hws)
    rw [hws] at HW HO HOL
    have HQN := Lib.hid (fun w => names_ref x0 w (by have := (HO.out x0 (by simp)).2; have := HH.out; omega))
    have hRR : prsR x0 r0 = if (nmQ x0).2.2 then prs r0 none0 else none := rfl
    obtain ⟨⟨na, pr, q0⟩, hnq⟩ : ∃ p, nmQ x0 = p := ⟨_, rfl⟩
    rw [hnq] at HQN HV hRR
    unfold nmV at HQN
    dsimp only at HQN HV hRR
    obtain ⟨R, hR⟩ : ∃ R, prsR x0 r0 = R := ⟨_, rfl⟩
    rw [hR] at HV hRR
    have HR := Lib.hid hRR
    have HRL := Lib.hid (show r0.length + 1 ≤ 4096 by have h1 : (x0 :: r0).length ≤ t.length := HOL.out; simp at h1; have := HH.out; omega)
    clear hws hnq hR hRR
    go_enter Tryz.func25, Tryz.ntmps25
    go_wp2_with fail
    refine HW.out.mono ?_
    rintro e w1 ⟨v, rfl, hr, hb⟩
    obtain ⟨pa, cap, rfl, hc1, hc2⟩ := hr.form
    unfold maxLen at hc2
    obtain ⟨b, off, rfl, d0⟩ := hr.cell (show 0 < (x0 :: r0).length by simp)
    have d0' : w1.cell? ⟨b, off, none⟩ = some (.string (bs x0)) := by simpa using d0
    have HD := Lib.hid d0'
    have HWS := Lib.hid hr
    have HB1 := Lib.hid (HA.out.trans (hb.mono HA.out.size))
    have HX1 := Lib.hid (HX.out.keep hb)
    obtain ⟨N, hN⟩ : ∃ N, (x0 :: r0).length = N := ⟨_, rfl⟩
    have HN := Lib.hid hN
    have hN1 : (N : Int) ≠ 0 := by rw [← hN]; simp <;> omega
    have hN0 : (0 : Int) < N := by rw [← hN]; simp <;> omega
    have tN : ((N : Int) == 0) = false := by simpa using hN1
    have HNL := Lib.hid (show N ≤ 4096 by rw [← hN]; have := HRL.out; simpa using this)
    rw [hN] at HWS hc1 ⊢
    clear hr hb d0 d0' hN hN1
    go_wp2_with fail
    refine (none_ref w1).mono ?_
    rintro e w2 ⟨rfl, hb⟩
    unfold chgVal none0
    have HB2 := Lib.hid (HB1.out.trans (hb.mono HB1.out.size))
    have HX2 := Lib.hid (HX1.out.keep hb)
    have HWS2 := Lib.hid (HWS.out.below hb)
    have HD2 := Lib.hid ((hb.cell (p := ⟨b, off, none⟩) (cell_in HD.out)).trans HD.out)
    have HA3 := Lib.hid ((Below.refl _ w2).alloc (Nat.le_refl _) (.cells #[.string ⟨#[]⟩, .string ⟨#[]⟩, .int .i64 0, .int .i64 0, .int .i64 (-1)] 29))
    have HS3 := Lib.hid (show SBox (w2.alloc (.cells #[.string ⟨#[]⟩, .string ⟨#[]⟩, .int .i64 0, .int .i64 0, .int .i64 (-1)] 29)) w2.heap.size ⟨[], [], none0⟩ from heap_alloc_new w2 _)
    have d3 := HD2.out
    have d3lt := cell_in d3
    clear hb
    go_wp2_with fail
    refine (HQN.out _).mono ?_
    rintro e w4 ⟨rfl, hb⟩
    have HQ4 := Lib.hid (HA3.out.trans (hb.mono HA3.out.size))
    have HS4 := Lib.hid (HS3.out.keep hb)
    obtain ⟨B5, hB5⟩ : ∃ B5, w2.heap.size = B5 := ⟨_, rfl⟩
    rw [hB5] at HQ4 HS4 ⊢
    have HB5 := Lib.hid hB5
    have z0 := HS4.out.free 0
    have z1 := HS4.out.free 1
    obtain ⟨y0, y1, _, _, _⟩ := HS4.out.get
    clear hb d3 d3lt hB5
    go_wp2_with fail
    have hs5 := sb_set (s' := ⟨na, pr, none0⟩) (sb_set (s' := ⟨na, [], none0⟩) HS4.out (k := 0) (.string (bs na)) rfl) (k := 1) (.string (bs pr)) rfl
    have hq5 := (HQ4.out.setCell (p := ⟨B5, 0, none⟩) (Nat.le_refl _) (.string (bs na))).setCell (p := ⟨B5, 1, none⟩) (Nat.le_refl _) (.string (bs pr))
    obtain ⟨w5, hw5⟩ : ∃ w5, (w4.setCell ⟨B5, 0, none⟩ (.string (bs na))).setCell ⟨B5, 1, none⟩ (.string (bs pr)) = w5 := ⟨_, rfl⟩
    rw [hw5] at hs5 hq5 ⊢
    have HS5 := Lib.hid hs5
    have HQ5 := Lib.hid hq5
    clear hs5 hq5 hw5 z0 z1 y0 y1
    go_loopw [8, 9, 10, 11] (fun is i _ _ wr => ∃ (k : Nat) (q : Bool) (c : Chg), is = .bool q ∧ i = .int .i64 k ∧ k ≤ N + 1 ∧ 1 ≤ k ∧ Hid (q = true → k ≤ N ∧ prs ((x0 :: r0).drop k) c = R) ∧ Hid (q = false → R = none) ∧ SBox wr B5 ⟨na, pr, c⟩ ∧ Below B5 w2 wr) (fun _ i _ _ _ => N + 1 - (intOf i).toNat)
    case atStart =>
      refine ⟨1, q0, none0, rfl, rfl, by omega, Nat.le_refl _, ?_, ?_, HS5.out, HQ5.out⟩
      · intro h
        refine ⟨by have := HN.out; simp at this; omega, ?_⟩
        have := HR.out
        rw [h] at this
        exact this.symm
      · intro h
        have := HR.out
        rw [h] at this
        exact this
    case round =>
      obtain ⟨k, q, c, rfl, rfl, hkN, hk1, HRT, HRF, hsb, hbw⟩ := hrel
      have HSB := Lib.hid hsb
      have HBW := Lib.hid hbw
      have HB := Lib.hid (HB2.out.trans (hbw.mono (by rw [← HB5.out]; exact HB2.out.size)))
      have hkk : (k : Int) ≤ 4097 := by have := HNL.out; omega
      clear hsb hbw
      cases q with
      | false =>
        have hrn := HRF.out rfl
        rw [hrn] at HV
        dsimp only at HV
        have hx := HX2.out.under HBW.out (by have := HX2.out.lt; have := HB5.out; omega)
        have HXR := Lib.hid hx
        obtain ⟨c0, c1, c2, c3, c4⟩ := hx.get
        have z0 := hx.free 0
        have z1 := hx.free 1
        have z2 := hx.free 2
        have z3 := hx.free 3
        have z4 := hx.free 4
        clear hx hrn
        go_wp2_with fail
        all_goals
          obtain ⟨W, hW, hr, k0, k1, k2, k3, k4, hbW⟩ := set5c (HXR.out) (.string ⟨#[]⟩) (.string ⟨#[]⟩) (.int .i64 0) (.int .i64 0) (.int .i64 0)
          rw [hW, HV.out]
          exact bodyPost_ret (v := pzV (zeroS, 67)) (by simp [results, Tryz.results25, go_sem, k0, k1, k2, k3, k4, pzV, styVal, zeroS, zeroC, bs]) rfl ⟨rfl, HB.out.trans hbW⟩
      | true =>
        obtain ⟨hkl, hpr⟩ := HRT.out rfl
        by_cases hlt : k < N
        · have hlt2 : (k : Int) < N := by omega
          have hlN : k < (x0 :: r0).length := by rw [HN.out]; exact hlt
          have hdr := List.drop_eq_getElem_cons hlN
          obtain ⟨b', off', e', dk⟩ := (HWS2.out.below (by rw [HB5.out]; exact HBW.out)).cell hlN
          cases e'
          have hwd := HO.out ((x0 :: r0)[k]) (List.getElem_mem hlN)
          obtain ⟨x, hx⟩ : ∃ x, (x0 :: r0)[k] = x := ⟨_, rfl⟩
          rw [hx] at hdr dk hwd
          rw [hdr] at hpr
          obtain ⟨r, hrd⟩ : ∃ r, (x0 :: r0).drop (k + 1) = r := ⟨_, rfl⟩
          rw [hrd] at hpr
          have HRD := Lib.hid hrd
          have HDK := Lib.hid dk
          have tx := bs_toList x
          obtain ⟨g, x', hgx⟩ : ∃ g x', x = g :: x' := by
            cases h : x with
            | nil => exact absurd h hwd.1
            | cons g x' => exact ⟨g, x', rfl⟩
          have HXL := Lib.hid (show x'.length ≤ 4096 by have h1 := hwd.2; rw [hgx] at h1; simp at h1; have := HH.out; omega)
          obtain ⟨s0, s1, s2, s3, s4⟩ := HSB.out.get
          have f2 := HSB.out.free 2
          have f3 := HSB.out.free 3
          have f4 := HSB.out.free 4
          dsimp only at s0 s1 s2 s3 s4
          clear hdr hx hrd hwd
          by_cases hxc : x = colorW
          · have t1 : (x == [99, 111, 108, 111, 114]) = true := by rw [hxc]; rfl
            by_cases hcm : c.col = -1
            · have tc : (c.col == -1) = true := by simpa using hcm
              by_cases hk2 : k + 1 < N
              · have hk3 : (k : Int) + 1 < N := by omega
                have hlN2 : k + 1 < (x0 :: r0).length := by rw [HN.out]; exact hk2
                have hd2 := List.drop_eq_getElem_cons hlN2
                obtain ⟨b', off', e', dk2⟩ := (HWS2.out.below (by rw [HB5.out]; exact HBW.out)).cell hlN2
                cases e'
                obtain ⟨y, hy⟩ : ∃ y, (x0 :: r0)[k + 1] = y := ⟨_, rfl⟩
                rw [hy] at hd2 dk2
                rw [HRD.out] at hd2
                rw [hxc, hd2, prs_color hcm] at hpr
                have HCO := Lib.hid (color_ref y wr (HT.out.below HB.out (Nat.le_refl _)))
                obtain ⟨oc, hoc⟩ : ∃ oc, colOf y = oc := ⟨_, rfl⟩
                rw [hoc] at hpr HCO
                have HPR := Lib.hid hpr
                unfold fndV at HCO
                have dk2' : wr.cell? ⟨b, off + (k + 1), none⟩ = some (.string (bs y)) := dk2
                have dk3 : wr.cell? ⟨b, off + k + 1, none⟩ = some (.string (bs y)) := dk2
                have dk4 : wr.cell? ⟨b, off + ((k : Int) + 1).toNat, none⟩ = some (.string (bs y)) := dk2
                clear hd2 hy hoc hpr hxc hcm hlN2 hgx f2 f3 dk2
                go_wp2_with fail
                refine HCO.out.mono ?_
                rintro e w6 ⟨rfl, hb⟩
                have hs6 := HSB.out.keep hb
                have HS6 := Lib.hid hs6
                have HQ6 := Lib.hid (HBW.out.trans (hb.mono (Nat.le_of_lt HSB.out.lt)))
                have g4 := hs6.free 4
                obtain ⟨_, _, _, _, y4⟩ := hs6.get
                clear hb hs6 s0 s1 s2 s3 s4 f4 dk dk2' dk3 dk4
                go_wp2_with fail
                have HS7 := Lib.hid (sb_set (s' := ⟨na, pr, ⟨c.on, c.off, (oc.getD 0 : Nat)⟩⟩) HS6.out (k := 4) (.int .i64 (oc.getD 0 : Nat)) rfl)
                have HQ7 := Lib.hid (HQ6.out.setCell (p := ⟨B5, 4, none⟩) (Nat.le_refl _) (.int .i64 (oc.getD 0 : Nat)))
                go_roundw
                case rel =>
                  refine ⟨k + 2, oc.isSome, ⟨c.on, c.off, (oc.getD 0 : Nat)⟩, rfl, by go_num, by omega, by omega, ?_, ?_, HS7.out, HQ7.out⟩
                  · intro h
                    obtain ⟨kk, hkk⟩ := Option.isSome_iff_exists.1 h
                    have h2 := HPR.out
                    rw [hkk] at h2 ⊢
                    exact ⟨by omega, h2⟩
                  · intro h
                    have h2 := HPR.out
                    cases oc with
                    | none => exact h2.symm
                    | some kk => cases h
                case measure => simp [intOf]; omega
              · have hk3 : ¬ (k : Int) + 1 < N := by omega
                have hre : r = [] := by rw [← HRD.out]; exact List.drop_eq_nil_of_le (by rw [HN.out]; omega)
                rw [hxc, prs_colno (.inr hre)] at hpr
                have HPR := Lib.hid hpr
                clear hpr hxc hcm hre hgx f2 f3
                go_wp2_with fail
                have HS7 := Lib.hid (sb_set (s' := ⟨na, pr, ⟨c.on, c.off, 0⟩⟩) HSB.out (k := 4) (.int .i64 0) rfl)
                have HQ7 := Lib.hid (HBW.out.setCell (p := ⟨B5, 4, none⟩) (Nat.le_refl _) (.int .i64 0))
                go_roundw
                case rel => exact ⟨k + 2, false, ⟨c.on, c.off, 0⟩, rfl, by go_num, by omega, by omega, (fun h => by cases h), (fun _ => HPR.out.symm), HS7.out, HQ7.out⟩
                case measure => simp [intOf]; omega
            · have tc : (c.col == -1) = false := by simpa using hcm
              rw [hxc, prs_colno (.inl hcm)] at hpr
              have HPR := Lib.hid hpr
              clear hpr hxc hcm hgx f2 f3
              go_wp2_with fail
              have HS7 := Lib.hid (sb_set (s' := ⟨na, pr, ⟨c.on, c.off, 0⟩⟩) HSB.out (k := 4) (.int .i64 0) rfl)
              have HQ7 := Lib.hid (HBW.out.setCell (p := ⟨B5, 4, none⟩) (Nat.le_refl _) (.int .i64 0))
              go_roundw
              case rel => exact ⟨k + 2, false, ⟨c.on, c.off, 0⟩, rfl, by go_num, by omega, by omega, (fun h => by cases h), (fun _ => HPR.out.symm), HS7.out, HQ7.out⟩
              case measure => simp [intOf]; omega
          · have t1 : (x == [99, 111, 108, 111, 114]) = false := by simpa [colorW] using hxc
            have hzx : (bs x).size = x'.length + 1 := by rw [bs_len, hgx]; rfl
            have hix : ∀ hh, (bs x)[0]'hh = g := by subst hgx; intro hh; rfl
            have hxl : (x'.length : Int) ≤ 4096 := by have := HXL.out; omega
            have hel : (bs x).extract 1 (x'.length + 1) = bs x' := by rw [hgx]; exact tail_bs g x'
            have HBI := Lib.hid (fun w => bit_ref x' w)
            have hno := @chg1_no c g x'
            have hon := @chg1_on c x'
            have hof := @chg1_off c x'
            have hsg := @chg1_sign c g x'
            have hbad := @prs_bad x r c hxc
            have hbit := fun d => @prs_bit x r c d hxc
            rw [← hgx] at hno hsg
            obtain ⟨v, hv⟩ : ∃ v, bitOf x' = v := ⟨_, rfl⟩
            rw [hv] at HBI
            rw [← hel] at HBI
            have htk : taken c x' = (v != 0 && bits .and .i64 (bits .or .i64 c.on c.off) v == 0) := by unfold taken; rw [hv]
            by_cases hg43 : g = 43
            · subst hg43
              by_cases hv0 : v = 0
              · have tv : (v != 0) = false := bne_f hv0
                have HPR := Lib.hid ((hbad (hno (by rw [htk, tv]; rfl))).symm.trans hpr)
                clear hv0
                clear hpr hno hon hof hsg hbad hbit htk hv hel hgx hxc
                go_wp2_with fail
                refine (HBI.out _).mono ?_
                rintro e w6 ⟨rfl, hb⟩
                have hs6 := HSB.out.keep hb
                have HS6 := Lib.hid hs6
                have HQ6 := Lib.hid (HBW.out.trans (hb.mono (Nat.le_of_lt HSB.out.lt)))
                have dk6 := (hb.cell (p := ⟨b, off + k, none⟩) (cell_in HDK.out)).trans HDK.out
                have g2 := hs6.free 2
                have g3 := hs6.free 3
                obtain ⟨_, _, y2, y3, y4⟩ := hs6.get
                dsimp only at y2 y3 y4
                clear hb hs6 s0 s1 s2 s3 s4 f2 f3 f4 dk
                go_wp2_with fail
                have HS7 := Lib.hid (sb_set (s' := ⟨na, pr, ⟨bits .or .i64 c.on v, c.off, c.col⟩⟩) HS6.out (k := 2) (.int .i64 (bits .or .i64 c.on v)) rfl)
                have HQ7 := Lib.hid (HQ6.out.setCell (p := ⟨B5, 2, none⟩) (Nat.le_refl _) (.int .i64 (bits .or .i64 c.on v)))
                go_roundw
                case rel => exact ⟨k + 1, false, ⟨bits .or .i64 c.on v, c.off, c.col⟩, rfl, by go_num, by omega, by omega, (fun h => by cases h), (fun _ => HPR.out.symm), HS7.out, HQ7.out⟩
                case measure => simp [intOf]; omega
              have tv : (v != 0) = true := bne_t hv0
              by_cases hb0 : bits .and .i64 (bits .or .i64 c.on c.off) v = 0
              · have tb : (bits .and .i64 (bits .or .i64 c.on c.off) v == 0) = true := by simpa using hb0
                have hd := hon (by rw [htk, tv, tb]; rfl)
                rw [← hgx, hv] at hd
                have HPR := Lib.hid ((hbit _ hd).symm.trans hpr)
                clear hv0 hb0 hd
                clear hpr hno hon hof hsg hbad hbit htk hv hel hgx hxc
                go_wp2_with fail
                refine (HBI.out _).mono ?_
                rintro e w6 ⟨rfl, hb⟩
                have hs6 := HSB.out.keep hb
                have HS6 := Lib.hid hs6
                have HQ6 := Lib.hid (HBW.out.trans (hb.mono (Nat.le_of_lt HSB.out.lt)))
                have dk6 := (hb.cell (p := ⟨b, off + k, none⟩) (cell_in HDK.out)).trans HDK.out
                have g2 := hs6.free 2
                have g3 := hs6.free 3
                obtain ⟨_, _, y2, y3, y4⟩ := hs6.get
                dsimp only at y2 y3 y4
                clear hb hs6 s0 s1 s2 s3 s4 f2 f3 f4 dk
                go_wp2_with fail
                have HS7 := Lib.hid (sb_set (s' := ⟨na, pr, ⟨bits .or .i64 c.on v, c.off, c.col⟩⟩) HS6.out (k := 2) (.int .i64 (bits .or .i64 c.on v)) rfl)
                have HQ7 := Lib.hid (HQ6.out.setCell (p := ⟨B5, 2, none⟩) (Nat.le_refl _) (.int .i64 (bits .or .i64 c.on v)))
                go_roundw
                case rel => exact ⟨k + 1, true, ⟨bits .or .i64 c.on v, c.off, c.col⟩, rfl, by go_num, by omega, by omega, (fun _ => ⟨by omega, by rw [HRD.out]; exact HPR.out⟩), (fun h => by cases h), HS7.out, HQ7.out⟩
                case measure => simp [intOf]; omega
              have tb : (bits .and .i64 (bits .or .i64 c.on c.off) v == 0) = false := by simpa using hb0
              have HPR := Lib.hid ((hbad (hno (by rw [htk, tv, tb]; rfl))).symm.trans hpr)
              clear hv0 hb0
              clear hpr hno hon hof hsg hbad hbit htk hv hel hgx hxc
              go_wp2_with fail
              refine (HBI.out _).mono ?_
              rintro e w6 ⟨rfl, hb⟩
              have hs6 := HSB.out.keep hb
              have HS6 := Lib.hid hs6
              have HQ6 := Lib.hid (HBW.out.trans (hb.mono (Nat.le_of_lt HSB.out.lt)))
              have dk6 := (hb.cell (p := ⟨b, off + k, none⟩) (cell_in HDK.out)).trans HDK.out
              have g2 := hs6.free 2
              have g3 := hs6.free 3
              obtain ⟨_, _, y2, y3, y4⟩ := hs6.get
              dsimp only at y2 y3 y4
              clear hb hs6 s0 s1 s2 s3 s4 f2 f3 f4 dk
              go_wp2_with fail
              have HS7 := Lib.hid (sb_set (s' := ⟨na, pr, ⟨bits .or .i64 c.on v, c.off, c.col⟩⟩) HS6.out (k := 2) (.int .i64 (bits .or .i64 c.on v)) rfl)
              have HQ7 := Lib.hid (HQ6.out.setCell (p := ⟨B5, 2, none⟩) (Nat.le_refl _) (.int .i64 (bits .or .i64 c.on v)))
              go_roundw
              case rel => exact ⟨k + 1, false, ⟨bits .or .i64 c.on v, c.off, c.col⟩, rfl, by go_num, by omega, by omega, (fun h => by cases h), (fun _ => HPR.out.symm), HS7.out, HQ7.out⟩
              case measure => simp [intOf]; omega
            by_cases hg45 : g = 45
            · subst hg45
              by_cases hv0 : v = 0
              · have tv : (v != 0) = false := bne_f hv0
                have HPR := Lib.hid ((hbad (hno (by rw [htk, tv]; rfl))).symm.trans hpr)
                clear hv0
                clear hpr hno hon hof hsg hbad hbit htk hv hel hgx hxc
                go_wp2_with fail
                refine (HBI.out _).mono ?_
                rintro e w6 ⟨rfl, hb⟩
                have hs6 := HSB.out.keep hb
                have HS6 := Lib.hid hs6
                have HQ6 := Lib.hid (HBW.out.trans (hb.mono (Nat.le_of_lt HSB.out.lt)))
                have dk6 := (hb.cell (p := ⟨b, off + k, none⟩) (cell_in HDK.out)).trans HDK.out
                have g2 := hs6.free 2
                have g3 := hs6.free 3
                obtain ⟨_, _, y2, y3, y4⟩ := hs6.get
                dsimp only at y2 y3 y4
                clear hb hs6 s0 s1 s2 s3 s4 f2 f3 f4 dk
                go_wp2_with fail
                have HS7 := Lib.hid (sb_set (s' := ⟨na, pr, ⟨c.on, bits .or .i64 c.off v, c.col⟩⟩) HS6.out (k := 3) (.int .i64 (bits .or .i64 c.off v)) rfl)
                have HQ7 := Lib.hid (HQ6.out.setCell (p := ⟨B5, 3, none⟩) (Nat.le_refl _) (.int .i64 (bits .or .i64 c.off v)))
                go_roundw
                case rel => exact ⟨k + 1, false, ⟨c.on, bits .or .i64 c.off v, c.col⟩, rfl, by go_num, by omega, by omega, (fun h => by cases h), (fun _ => HPR.out.symm), HS7.out, HQ7.out⟩
                case measure => simp [intOf]; omega
              have tv : (v != 0) = true := bne_t hv0
              by_cases hb0 : bits .and .i64 (bits .or .i64 c.on c.off) v = 0
              · have tb : (bits .and .i64 (bits .or .i64 c.on c.off) v == 0) = true := by simpa using hb0
                have hd := hof (by rw [htk, tv, tb]; rfl)
                rw [← hgx, hv] at hd
                have HPR := Lib.hid ((hbit _ hd).symm.trans hpr)
                clear hv0 hb0 hd
                clear hpr hno hon hof hsg hbad hbit htk hv hel hgx hxc
                go_wp2_with fail
                refine (HBI.out _).mono ?_
                rintro e w6 ⟨rfl, hb⟩
                have hs6 := HSB.out.keep hb
                have HS6 := Lib.hid hs6
                have HQ6 := Lib.hid (HBW.out.trans (hb.mono (Nat.le_of_lt HSB.out.lt)))
                have dk6 := (hb.cell (p := ⟨b, off + k, none⟩) (cell_in HDK.out)).trans HDK.out
                have g2 := hs6.free 2
                have g3 := hs6.free 3
                obtain ⟨_, _, y2, y3, y4⟩ := hs6.get
                dsimp only at y2 y3 y4
                clear hb hs6 s0 s1 s2 s3 s4 f2 f3 f4 dk
                go_wp2_with fail
                have HS7 := Lib.hid (sb_set (s' := ⟨na, pr, ⟨c.on, bits .or .i64 c.off v, c.col⟩⟩) HS6.out (k := 3) (.int .i64 (bits .or .i64 c.off v)) rfl)
                have HQ7 := Lib.hid (HQ6.out.setCell (p := ⟨B5, 3, none⟩) (Nat.le_refl _) (.int .i64 (bits .or .i64 c.off v)))
                go_roundw
                case rel => exact ⟨k + 1, true, ⟨c.on, bits .or .i64 c.off v, c.col⟩, rfl, by go_num, by omega, by omega, (fun _ => ⟨by omega, by rw [HRD.out]; exact HPR.out⟩), (fun h => by cases h), HS7.out, HQ7.out⟩
                case measure => simp [intOf]; omega
              have tb : (bits .and .i64 (bits .or .i64 c.on c.off) v == 0) = false := by simpa using hb0
              have HPR := Lib.hid ((hbad (hno (by rw [htk, tv, tb]; rfl))).symm.trans hpr)
              clear hv0 hb0
              clear hpr hno hon hof hsg hbad hbit htk hv hel hgx hxc
              go_wp2_with fail
              refine (HBI.out _).mono ?_
              rintro e w6 ⟨rfl, hb⟩
              have hs6 := HSB.out.keep hb
              have HS6 := Lib.hid hs6
              have HQ6 := Lib.hid (HBW.out.trans (hb.mono (Nat.le_of_lt HSB.out.lt)))
              have dk6 := (hb.cell (p := ⟨b, off + k, none⟩) (cell_in HDK.out)).trans HDK.out
              have g2 := hs6.free 2
              have g3 := hs6.free 3
              obtain ⟨_, _, y2, y3, y4⟩ := hs6.get
              dsimp only at y2 y3 y4
              clear hb hs6 s0 s1 s2 s3 s4 f2 f3 f4 dk
              go_wp2_with fail
              have HS7 := Lib.hid (sb_set (s' := ⟨na, pr, ⟨c.on, bits .or .i64 c.off v, c.col⟩⟩) HS6.out (k := 3) (.int .i64 (bits .or .i64 c.off v)) rfl)
              have HQ7 := Lib.hid (HQ6.out.setCell (p := ⟨B5, 3, none⟩) (Nat.le_refl _) (.int .i64 (bits .or .i64 c.off v)))
              go_roundw
              case rel => exact ⟨k + 1, false, ⟨c.on, bits .or .i64 c.off v, c.col⟩, rfl, by go_num, by omega, by omega, (fun h => by cases h), (fun _ => HPR.out.symm), HS7.out, HQ7.out⟩
              case measure => simp [intOf]; omega
            have h43 : ((g.toNat : Int) == 43) = false := by simp; intro e; exact hg43 (UInt8.toNat_inj.1 (by show g.toNat = 43; omega))
            have h45 : ((g.toNat : Int) == 45) = false := by simp; intro e; exact hg45 (UInt8.toNat_inj.1 (by show g.toNat = 45; omega))
            have HPR := Lib.hid ((hbad (hsg hg43 hg45)).symm.trans hpr)
            clear hpr hno hon hof hsg hbad hbit htk hv hel hgx hg43 hg45 hxc
            go_wp2_with fail
            go_roundw
            case rel => exact ⟨k + 1, false, c, rfl, by go_num, by omega, by omega, (fun h => by cases h), (fun _ => HPR.out.symm), HSB.out, HBW.out⟩
            case measure => simp [intOf]; omega
        · have hke : k = N := by omega
          have hge : ¬ (k : Int) < N := by omega
          have hrc : R = some c := by
            rw [← hpr, List.drop_eq_nil_of_le (by rw [HN.out]; omega)]
            rfl
          rw [hrc] at HV
          dsimp only at HV
          have hx := HX2.out.under HBW.out (by have := HX2.out.lt; have := HB5.out; omega)
          have HXR := Lib.hid hx
          obtain ⟨c0, c1, c2, c3, c4⟩ := hx.get
          have z0 := hx.free 0
          have z1 := hx.free 1
          have z2 := hx.free 2
          have z3 := hx.free 3
          have z4 := hx.free 4
          obtain ⟨s0, s1, s2, s3, s4⟩ := HSB.out.get
          dsimp only at s0 s1 s2 s3 s4
          clear hx hrc hpr hke
          go_wp2_with fail
          obtain ⟨W, hW, hr, k0, k1, k2, k3, k4, hbW⟩ := set5c (HXR.out) (.string (bs na)) (.string (bs pr)) (.int .i64 c.on) (.int .i64 c.off) (.int .i64 c.col)
          rw [hW, HV.out]
          exact bodyPost_ret (v := pzV (⟨na, pr, c⟩, 0)) (by simp [results, Tryz.results25, go_sem, k0, k1, k2, k3, k4, pzV, styVal]) rfl ⟨rfl, HB.out.trans hbW⟩
end Go.Proofs.YtceanagnkcejgaaGreatDoor
