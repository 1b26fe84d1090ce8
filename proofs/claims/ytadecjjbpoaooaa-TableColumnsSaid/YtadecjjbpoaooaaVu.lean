/- Layer 12: the document's Columns. -/
import Derived.Test.YtadecjjbpoaooaaVj
import Derived.Test.YtadecjjbpoaooaaVk
import Derived.Deep.CutBlock
namespace Go.Proofs.Ytadecjjbpoaooaa.Tb
open Go.RowKit Go.Maps
set_option linter.unusedVariables false
set_option linter.unusedSimpArgs false
theorem deal_zero {ws : List Int} {i : Nat} (hi : i < ws.length) : dealG ws (freeN ws) 0 i = baseG ws i := by
  by_cases h : wAt ws i = 0
  · exact deal_none ws _ i (by have := rank_lt hi h; omega)
  · unfold dealG baseG one
    rw [if_neg h, if_neg h]
theorem deal_nofree {ws : List Int} (hf : freeN ws = 0) (f c : Nat) {i : Nat} (hi : i < ws.length) : dealG ws f c i = baseG ws i := by
  have h : wAt ws i ≠ 0 := fun h => by have := rank_lt hi h; omega
  unfold dealG baseG one
  rw [if_neg h, if_neg h]
/-- What the dealing comes to. -/
theorem deal_end {ws : List Int} {room : Int} {c : Nat} (h1 : sumZ (baseL ws) + c ≤ room ∨ c = 0) (h2 : room ≤ sumZ (baseL ws) + c ∨ freeN ws = 0) :
    narrowN (sumZ (baseL ws) + c - room).toNat (fnL ws.length (dealG ws (freeN ws) c)) = widthsM ws room := by
  have e0 : fnL ws.length (dealG ws (freeN ws) 0) = baseL ws := fnL_eq fun j hj => deal_zero hj
  unfold widthsM
  split
  · rename_i h
    obtain rfl : c = 0 := by omega
    rw [e0]
    simp
  · rename_i h
    rw [show (sumZ (baseL ws) + c - room).toNat = 0 by omega]
    show fnL ws.length (dealG ws (freeN ws) c) = _
    rcases Nat.eq_zero_or_pos (freeN ws) with hf | hf
    · exact fnL_eq fun j hj => by rw [deal_nofree hf _ _ hj, deal_nofree hf _ _ hj]
    · rw [show c = (room - sumZ (baseL ws)).toNat by omega]
set_option maxRecDepth 100000 in
set_option maxHeartbeats 16000000 in
theorem columns_ref {P : Nat → Prop} (ws : List Int) (v : Value) (wide : Int) (w : World) (h : RdZ P w v ws) (hwf : (Lit.int .i64 wide).wf = true) :
    Calls Try.prog 8 #[v, .int .i64 wide] w (ColsPost ws wide w) := by
  obtain ⟨pa, cap, rfl, hc1, hc2⟩ := sliceZ h
  have hwf' : -9223372036854775808 ≤ wide ∧ wide ≤ 9223372036854775807 := by simpa [Lit.wf, IntKind.min, IntKind.max, IntKind.signed, IntKind.bits] using hwf
  have HH := Lib.hid h
  obtain ⟨n, hn⟩ : ∃ n, ws.length = n := ⟨_, rfl⟩
  have HN := Lib.hid hn
  rw [hn] at HH hc1 ⊢
  have n62 : n ≤ 9223372036854775807 := by omega
  clear h hn
  by_cases hA : wide < 10 ∨ 200 < wide ∨ n < 1 ∨ 8 < n
  · have HE := Lib.hid (show colsE ws wide = 1 by unfold colsE; rw [if_pos (by have := HN.out; omega)])
    clear hc1
    rcases hA with hA | hA | hA | hA
    · have t1 : decide (wide < 10) = true := decide_eq_true hA
      go_enter Try.func8, Try.ntmps8
      go_wp2_with fail
      go_ret2
      exact cols_bad HE.out (Below.refl _ _)
    · have t0 : decide (wide < 10) = false := decide_eq_false (by omega)
      have t1 : decide (200 < wide) = true := decide_eq_true hA
      go_enter Try.func8, Try.ntmps8
      go_wp2_with fail
      go_ret2
      exact cols_bad HE.out (Below.refl _ _)
    · obtain rfl : n = 0 := by omega
      by_cases c1 : wide < 10
      · have t1 : decide (wide < 10) = true := decide_eq_true c1
        go_enter Try.func8, Try.ntmps8
        go_wp2_with fail
        go_ret2
        exact cols_bad HE.out (Below.refl _ _)
      · have t1 : decide (wide < 10) = false := decide_eq_false c1
        by_cases c2 : 200 < wide
        · have t2 : decide (200 < wide) = true := decide_eq_true c2
          go_enter Try.func8, Try.ntmps8
          go_wp2_with fail
          go_ret2
          exact cols_bad HE.out (Below.refl _ _)
        · have t2 : decide (200 < wide) = false := decide_eq_false c2
          go_enter Try.func8, Try.ntmps8
          go_wp2_with fail
          go_ret2
          exact cols_bad HE.out (Below.refl _ _)
    · have t3 : decide ((n : Int) < 1) = false := decide_eq_false (by omega)
      have t4 : decide ((8 : Int) < n) = true := decide_eq_true (by omega)
      by_cases c1 : wide < 10
      · have t1 : decide (wide < 10) = true := decide_eq_true c1
        go_enter Try.func8, Try.ntmps8
        go_wp2_with fail
        go_ret2
        exact cols_bad HE.out (Below.refl _ _)
      · have t1 : decide (wide < 10) = false := decide_eq_false c1
        by_cases c2 : 200 < wide
        · have t2 : decide (200 < wide) = true := decide_eq_true c2
          go_enter Try.func8, Try.ntmps8
          go_wp2_with fail
          go_ret2
          exact cols_bad HE.out (Below.refl _ _)
        · have t2 : decide (200 < wide) = false := decide_eq_false c2
          go_enter Try.func8, Try.ntmps8
          go_wp2_with fail
          go_ret2
          exact cols_bad HE.out (Below.refl _ _)
  · have w1 : 10 ≤ wide := by omega
    have w2 : wide ≤ 200 := by omega
    have hn1 : 1 ≤ n := by omega
    have hn2 : n ≤ 8 := by omega
    have t1 : decide (wide < 10) = false := decide_eq_false (by omega)
    have t2 : decide (200 < wide) = false := decide_eq_false (by omega)
    have t3 : decide ((n : Int) < 1) = false := decide_eq_false (by omega)
    have t4 : decide ((8 : Int) < n) = false := decide_eq_false (by omega)
    clear hA hc1 hwf' hwf
    go_enter Try.func8, Try.ntmps8
    go_wp2_with fail
    go_loopw [7] (fun i wr => ∃ k : Nat, i = .int .i64 k ∧ k ≤ n ∧ Hid (∀ j, j < k → 0 ≤ wAt ws j ∧ wAt ws j ≤ 200) ∧ wr = w) (fun i _ => n - (intOf i).toNat)
    case atStart => exact ⟨0, rfl, Nat.zero_le _, Lib.hid (fun j hj => absurd hj (by omega)), rfl⟩
    case round =>
      obtain ⟨k, rfl, hk, HK, rfl⟩ := hrel
      by_cases hlt : k < n
      · have k1 : (k : Int) < n := by omega
        have hkl : k < ws.length := by rw [HN.out]; exact hlt
        obtain ⟨b, off, rfl, hc⟩ := HH.out.cell hkl
        have HX := Lib.hid (fun (h : ¬ (0 ≤ ws[k] ∧ ws[k] ≤ 200)) => show colsE ws wide = 1 by
          unfold colsE
          rw [if_pos (.inr (.inr (.inr (.inr (List.any_eq_true.2 ⟨ws[k], List.getElem_mem hkl, by unfold okW; rw [decide_eq_false h]; rfl⟩)))))])
        have HWA := Lib.hid (wAt_at hkl)
        obtain ⟨z, hz⟩ : ∃ z, ws[k] = z := ⟨_, rfl⟩
        rw [hz] at hc HX HWA
        have HLT := Lib.hid hlt
        clear hlt hkl hz
        by_cases z0 : z < 0
        · have d0 : decide (z < 0) = true := decide_eq_true z0
          have HE := Lib.hid (HX.out (by omega))
          clear z0
          go_wp2_with fail
          go_ret2
          exact cols_bad HE.out (Below.refl _ _)
        · have d0 : decide (z < 0) = false := decide_eq_false z0
          by_cases z1 : 200 < z
          · have d1 : decide (200 < z) = true := decide_eq_true z1
            have HE := Lib.hid (HX.out (by omega))
            clear z0 z1
            go_wp2_with fail
            go_ret2
            exact cols_bad HE.out (Below.refl _ _)
          · have d1 : decide (200 < z) = false := decide_eq_false z1
            have HK2 := Lib.hid (show ∀ j, j < k + 1 → 0 ≤ wAt ws j ∧ wAt ws j ≤ 200 from fun j hj => by
              by_cases e : j < k
              · exact HK.out j e
              · obtain rfl : j = k := by omega
                rw [HWA.out]; omega)
            clear z0 z1
            go_wp2_with fail
            go_roundw
            case measure => have := HLT.out; simp [intOf]; omega
            case rel => exact ⟨k + 1, by go_num, HLT.out, HK2, trivial⟩
      · obtain rfl : n = k := by omega
        have hzk : ¬ (n : Int) < n := by omega
        have hok : OkWs ws := fun x hx => by
          obtain ⟨j, hj, rfl⟩ := List.mem_iff_getElem.1 hx
          have := HK.out j (by rw [← HN.out]; exact hj)
          rw [wAt_at hj] at this
          exact this
        have hany : ws.any (fun w => !okW w) = false := by
          rw [List.any_eq_false]
          intro x hx
          have := hok x hx
          unfold okW
          rw [decide_eq_true this]
          simp
        have HEO := Lib.hid (colsE_ok w1 w2 (by rw [HN.out]; exact hn1) (by rw [HN.out]; exact hn2) hany)
        have HOK := Lib.hid hok
        clear hlt HK hok hany
        obtain ⟨R, hR⟩ : ∃ R, roomOf n wide = R := ⟨_, rfl⟩
        obtain ⟨G, hG⟩ : ∃ G, gapOf n wide = G := ⟨_, rfl⟩
        have hGb : 0 ≤ G ∧ G ≤ 1 := by rw [← hG]; unfold gapOf; split <;> omega
        have hRb : 0 ≤ R ∧ R ≤ 200 := by rw [← hR]; unfold roomOf; split <;> omega
        have HM := Lib.hid (show colsL ws wide = colsAt G 0 (widthsM ws R) by unfold colsL colsM; rw [HEO.out, HN.out, hR, hG]; rfl)
        have G1 := hGb.1
        have G2 := hGb.2
        have R1 := hRb.1
        have R2 := hRb.2
        have HBD := Lib.hid (widths_bd HOK.out (by rw [HN.out]; exact hn2) R1 R2)
        have HZL := Lib.hid ((widthsM_len ws R).trans HN.out)
        clear hRb hGb
        obtain ⟨w0, rfl⟩ : ∃ w0 : World, w0 = wr := ⟨wr, rfl⟩
        have hmk := make_ints n (by omega) w0
        have hA := below_box w0 (.cells (madeCells #[.int .i64 0] n) 3)
        have HO := Lib.hid (show (w0.alloc (.cells (madeCells #[.int .i64 0] n) 3)).ownsRow w0.heap.size 3 1 (.slice (some ⟨w0.heap.size, 0, none⟩) n n) n (numsZ (fnL n (fun j => if j < 0 then baseG ws j else 0))) from by
          have h := World.ownsRow_lit (e := 3) (size := 1) (base := w0.heap.size) w0 (madeCells #[.int .i64 0] n) n (Nat.le_refl _) (by unfold maxLen; omega) (by simp [madeCells])
          rw [made_int] at h
          exact own_fn h (fun j _ => by simp))
        have HA := Lib.hid hA
        obtain ⟨g, hg⟩ : ∃ g, w0.heap.size = g := ⟨_, rfl⟩
        have HG := Lib.hid hg
        obtain ⟨S, hS⟩ : ∃ S : Nat → Int, S = fun i => sumZ (fnL i (baseG ws)) := ⟨_, rfl⟩
        have hSb : ∀ i : Nat, i ≤ n → 0 ≤ S i ∧ S i ≤ 1600 := fun i hi => by
          have := sum_bd (base_ok HOK.out) i
          rw [hS]
          simp only
          omega
        have HSB := Lib.hid hSb
        have HS1 := Lib.hid (show ∀ i, S (i + 1) = S i + baseG ws i from fun i => by rw [hS]; exact sum_snoc i _)
        have hS0 : S 0 = 0 := by rw [hS]; rfl
        have HSN := Lib.hid (show sumZ (baseL ws) = S n by rw [hS]; unfold baseL; rw [HN.out])
        clear hA hS hSb
        have hGR : (wide - (n - 1) < n ∧ G = 0 ∧ R = wide) ∨ (¬ (wide - (n - 1) < n) ∧ G = 1 ∧ R = wide - (n - 1)) := by
          rw [← hG, ← hR]; unfold gapOf roomOf
          by_cases h : wide - (n - 1) < n
          · left; rw [if_pos h, if_pos h]; exact ⟨h, rfl, rfl⟩
          · right; rw [if_neg h, if_neg h]; exact ⟨h, rfl, rfl⟩
        have HGR := Lib.hid hGR
        clear hG hR hGR
        go_upto_if 58 with fail
        go_cut [8] from 53 (fun s8 wx => s8 = .int .i64 G ∧ w0 = wx)
        case first =>
          rcases HGR.out with ⟨h, rfl, rfl⟩ | ⟨h, rfl, rfl⟩
          · go_wp2_with fail
            go_meet
            case rel => exact ⟨rfl, rfl⟩
          · go_wp2_with fail
            go_meet
            case rel => exact ⟨rfl, rfl⟩
        case rest =>
          obtain ⟨rfl, hwc⟩ := hcut
          subst hwc
          go_upto_region 12 with fail
          go_cut [9] from 53 (fun s9 wx => s9 = .int .i64 R ∧ w0 = wx)
          case first =>
            rcases HGR.out with ⟨h, rfl, rfl⟩ | ⟨h, rfl, rfl⟩
            · go_wp2_with fail
              go_meet
              case rel => exact ⟨by go_num, rfl⟩
            · go_wp2_with fail
              go_meet
              case rel => exact ⟨by go_num, rfl⟩
          case rest =>
            obtain ⟨rfl, hwc⟩ := hcut
            subst hwc
            go_wp2_with fail
            rw [hg] at HO
            clear hmk
            go_loopw [11, 12, 13] (fun f a i wr => ∃ k : Nat, i = .int .i64 k ∧ k ≤ n ∧ a = .int .i64 (S k) ∧ f = .int .i64 (rank ws k : Nat) ∧ Hid (wr.ownsRow g 3 1 (.slice (some ⟨g, 0, none⟩) n n) n (numsZ (fnL n (fun j => if j < k then baseG ws j else 0)))) ∧ Hid (Below g w0 wr)) (fun _ _ i _ => n - (intOf i).toNat)
            case atStart => exact ⟨0, rfl, Nat.zero_le _, by rw [hS0], by rw [rank_zero]; rfl, HO, by rw [← HG.out]; exact HA⟩
            case round =>
              obtain ⟨k, rfl, hkn, rfl, rfl, HOk, HB⟩ := hrel
              have hsb := HSB.out k hkn
              have hs1 := hsb.1
              have hs2 := hsb.2
              have hrk := rank_le ws k
              by_cases hlt : k < n
              · have k1 : (k : Int) < n := by omega
                have hkl : k < ws.length := by rw [HN.out]; exact hlt
                obtain ⟨b, off, rfl, hc⟩ := (HH.out.below (by have := HB.out; rw [← HG.out] at this; exact this)).cell hkl
                rw [← wAt_at hkl] at hc
                obtain ⟨hcell, hfz⟩ := own_cell HOk.out hlt
                rw [if_neg (by omega)] at hcell
                have HLT := Lib.hid hlt
                have hw := wAt_ok HOK.out k
                have hbk := base_ok HOK.out k
                have HSK := Lib.hid (HS1.out k)
                have HST := Lib.hid (own_fn (own_set HOk.out k (baseG ws k)) (z' := fun j => if j < k + 1 then baseG ws j else 0) (fun j hj => by
                  by_cases e : j = k
                  · subst e; simp
                  · simp only [if_neg e]
                    by_cases h : j < k
                    · rw [if_pos h, if_pos (by omega)]
                    · rw [if_neg h, if_neg (by omega)]))
                have hs0 := own_set HOk.out k 0
                have HST2 := Lib.hid (own_fn (own_set hs0 k (baseG ws k)) (z' := fun j => if j < k + 1 then baseG ws j else 0) (fun j hj => by
                  by_cases e : j = k
                  · subst e; simp
                  · simp only [if_neg e]
                    by_cases h : j < k
                    · rw [if_pos h, if_pos (by omega)]
                    · rw [if_neg h, if_neg (by omega)]))
                have hcs := own_cell hs0 hlt
                rw [if_pos rfl] at hcs
                have HBS := Lib.hid (HB.out.setCell (p := ⟨g, k, none⟩) (Nat.le_refl _) (.int .i64 (baseG ws k)))
                have HBS2 := Lib.hid ((HB.out.setCell (p := ⟨g, k, none⟩) (Nat.le_refl _) (.int .i64 0)).setCell (p := ⟨g, k, none⟩) (Nat.le_refl _) (.int .i64 (baseG ws k)))
                have hcell2 := (own_cell HST.out hlt).1
                rw [if_pos (by omega)] at hcell2
                have hcell3 := (own_cell HST2.out hlt).1
                rw [if_pos (by omega)] at hcell3
                have HRF := Lib.hid (show wAt ws k = 0 → rank ws (k + 1) = rank ws k + 1 from rank_free hkl)
                have HRX := Lib.hid (show wAt ws k ≠ 0 → rank ws (k + 1) = rank ws k from rank_fixed hkl)
                have HB0 := Lib.hid (show wAt ws k = 0 → baseG ws k = 1 from fun h => by unfold baseG one; rw [if_pos h])
                have HB1 := Lib.hid (show wAt ws k ≠ 0 → baseG ws k = wAt ws k from fun h => by unfold baseG one; rw [if_neg h])
                obtain ⟨x, hx⟩ : ∃ x, wAt ws k = x := ⟨_, rfl⟩
                obtain ⟨y, hy⟩ : ∃ y, baseG ws k = y := ⟨_, rfl⟩
                obtain ⟨t, ht⟩ : ∃ t, S k = t := ⟨_, rfl⟩
                obtain ⟨q, hq⟩ : ∃ q, rank ws k = q := ⟨_, rfl⟩
                rw [hx] at hc hw HRF HRX HB0 HB1
                rw [hy] at hbk HSK HST HST2 HBS HBS2 hcell2 hcell3 HB0 HB1
                rw [ht] at hs1 hs2 HSK ⊢
                rw [hq] at hrk HRF HRX ⊢
                have x1 := hw.1
                have x2 := hw.2
                obtain ⟨hcs1, hcs2⟩ := hcs
                clear hsb hlt hkl hw hbk hx hy ht hq hs0
                by_cases hz : x = 0
                · subst hz
                  obtain rfl : y = 1 := HB0.out rfl
                  have HRQ := Lib.hid (HRF.out rfl)
                  go_wp2_with fail
                  go_roundw
                  case measure => have := HLT.out; simp [intOf]; omega
                  case rel => exact ⟨k + 1, by go_num, HLT.out, by rw [HSK.out], by rw [HRQ.out]; go_num, by first | exact HST | exact HST2, by first | exact HBS | exact HBS2⟩
                · have hzb : (x == 0) = false := by simpa using hz
                  obtain rfl : y = x := HB1.out hz
                  have HRQ := Lib.hid (HRX.out hz)
                  clear hz hcs1 hcs2 hcell3
                  go_wp2_with fail
                  go_roundw
                  case measure => have := HLT.out; simp [intOf]; omega
                  case rel => exact ⟨k + 1, by go_num, HLT.out, by rw [HSK.out], by rw [HRQ.out], HST, HBS⟩
              · obtain rfl : n = k := by omega
                have HO1 := Lib.hid (own_fn HOk.out (z' := dealG ws (freeN ws) 0) (fun j hj => by rw [if_pos hj, deal_zero (by rw [HN.out]; exact hj)]))
                obtain ⟨F, hF⟩ : ∃ F, freeN ws = F := ⟨_, rfl⟩
                have hrn : rank ws n = F := by rw [← hF]; unfold freeN; rw [HN.out]
                have HF := Lib.hid hF
                have HRN := Lib.hid hrn
                obtain ⟨T, hT⟩ : ∃ T, S n = T := ⟨_, rfl⟩
                rw [hF] at HO1
                rw [hrn] at hrk ⊢
                rw [hT] at hs1 hs2 HSN ⊢
                clear hlt hsb HOk hF hrn hT
                go_upto_block 4 with fail
                go_cut [12] from 95 (fun a wx => ∃ c : Nat, a = .int .i64 (T + c) ∧ c ≤ 200 ∧ (T + c ≤ R ∨ c = 0) ∧ (R ≤ T + c ∨ F = 0) ∧ Hid (wx.ownsRow g 3 1 (.slice (some ⟨g, 0, none⟩) n n) n (numsZ (fnL n (dealG ws F c)))) ∧ Hid (Below g w0 wx))
                case first =>
                  go_wp2_with fail
                  go_loopw [12] (fun a wr => ∃ c : Nat, a = .int .i64 (T + c) ∧ (T + c ≤ R ∨ c = 0) ∧ ((∃ t, c = F * t) ∨ R ≤ T + c) ∧ Hid (wr.ownsRow g 3 1 (.slice (some ⟨g, 0, none⟩) n n) n (numsZ (fnL n (dealG ws F c)))) ∧ Hid (Below g w0 wr)) (fun a _ => (R - intOf a).toNat)
                  case atStart => exact ⟨0, by simp, .inr rfl, .inl ⟨0, by simp⟩, HO1, HB⟩
                  case round =>
                    obtain ⟨c, rfl, hc1, hc2, HOc, HBc⟩ := hrel
                    obtain ⟨w3, rfl⟩ : ∃ w3 : World, w3 = wr := ⟨wr, rfl⟩
                    have hcb : c ≤ 200 := by omega
                    by_cases hin : T + c < R ∧ 0 < F
                    · obtain ⟨t, ht⟩ : ∃ t, c = F * t := by
                        rcases hc2 with h | h
                        · exact h
                        · omega
                      have HT := Lib.hid ht
                      have HIN := Lib.hid hin
                      have d1 : decide (T + (c : Int) < R) = true := decide_eq_true hin.1
                      have d2 : decide ((0 : Int) < F) = true := decide_eq_true (by omega)
                      have f1 : 0 < F := hin.2
                      have f2 : (0 : Int) < F := by omega
                      have HOs := Lib.hid (show w3.ownsRow g 3 1 (.slice (some ⟨g, 0, none⟩) n n) n (numsZ (fnL n (dealG ws F (c + rank ws 0)))) by rw [rank_zero]; exact HOc.out)
                      clear hc1 hc2 ht hin
                      go_wp2_with fail
                      go_loopw [12, 14] (fun a i wr => ∃ j : Nat, i = .int .i64 j ∧ j ≤ n ∧ a = .int .i64 (T + (c + rank ws j : Nat)) ∧ Hid (T + (c + rank ws j : Nat) ≤ R) ∧ Hid (wr.ownsRow g 3 1 (.slice (some ⟨g, 0, none⟩) n n) n (numsZ (fnL n (dealG ws F (c + rank ws j))))) ∧ Hid (Below g w0 wr)) (fun _ i _ => n - (intOf i).toNat)
                      case atStart => exact ⟨0, rfl, Nat.zero_le _, by rw [rank_zero]; rfl, Lib.hid (by rw [rank_zero]; have := HIN.out.1; omega), HOs, HBc⟩
                      case round =>
                        obtain ⟨j, rfl, hj, rfl, HLE, HOj, HBj⟩ := hrel
                        have hrj := rank_le ws j
                        by_cases hin2 : j < n ∧ T + (c + rank ws j : Nat) < R
                        · obtain ⟨hlt, hls⟩ := hin2
                          have j1 : (j : Int) < n := by omega
                          have hjl : j < ws.length := by rw [HN.out]; exact hlt
                          obtain ⟨b, off, rfl, hc⟩ := (HH.out.below (by have := HBj.out; rw [← HG.out] at this; exact this)).cell hjl
                          rw [← wAt_at hjl] at hc
                          obtain ⟨hcell, hfz⟩ := own_cell HOj.out hlt
                          have hdb := deal_bd HOK.out F (c + rank ws j) j (by omega)
                          have HLT := Lib.hid hlt
                          have hls2 := hls
                          have HLS := Lib.hid hls2
                          by_cases hz : wAt ws j = 0
                          · have hrf := rank_free hjl hz
                            have hdn := deal_next (t := t) hjl hz
                            rw [HF.out, ← HT.out, HN.out] at hdn
                            have hst := own_set HOj.out j (dealG ws F (c + rank ws j) j + 1)
                            rw [← fnL_set, hdn] at hst
                            have HST := Lib.hid hst
                            have HBS := Lib.hid (HBj.out.setCell (p := ⟨g, j, none⟩) (Nat.le_refl _) (.int .i64 (dealG ws F (c + rank ws j) j + 1)))
                            have HRF := Lib.hid hrf
                            rw [hz] at hc
                            obtain ⟨z, hzz⟩ : ∃ z, dealG ws F (c + rank ws j) j = z := ⟨_, rfl⟩
                            rw [hzz] at hcell hdb HBS HST
                            obtain ⟨q, hq⟩ : ∃ q, c + rank ws j = q := ⟨_, rfl⟩
                            have HQ := Lib.hid hq
                            rw [hq] at HLE HLS hls hls2 HST ⊢
                            have d3 : decide (T + (q : Int) < R) = true := decide_eq_true hls
                            have q1 : q ≤ 208 := by omega
                            have z1 := hdb.1
                            have z2 := hdb.2
                            clear hlt hls hls2 hjl hdb hz hrf hdn hst hzz hq hrj
                            go_wp2_with fail
                            go_roundw
                            case measure => have := HLT.out; simp [intOf]; omega
                            case rel => exact ⟨j + 1, by go_num, HLT.out, by rw [HRF.out, ← Nat.add_assoc, HQ.out]; go_num, Lib.hid (by rw [HRF.out, ← Nat.add_assoc, HQ.out]; have := HLS.out; omega), by rw [HRF.out, ← Nat.add_assoc, HQ.out]; exact HST, HBS⟩
                          · have hrn := rank_fixed hjl hz
                            have HRX := Lib.hid hrn
                            have hzb : (wAt ws j == 0) = false := by simpa using hz
                            obtain ⟨x, hx⟩ : ∃ x, wAt ws j = x := ⟨_, rfl⟩
                            rw [hx] at hc hzb
                            obtain ⟨q, hq⟩ : ∃ q, c + rank ws j = q := ⟨_, rfl⟩
                            have HQ := Lib.hid hq
                            rw [hq] at HLE HLS hls hls2 HOj ⊢
                            have d3 : decide (T + (q : Int) < R) = true := decide_eq_true hls
                            have q1 : q ≤ 208 := by omega
                            clear hlt hls hls2 hjl hdb hz hrn hx hq hrj hcell hfz
                            go_wp2_with fail
                            go_roundw
                            case measure => have := HLT.out; simp [intOf]; omega
                            case rel => exact ⟨j + 1, by go_num, HLT.out, by rw [HRX.out, HQ.out], Lib.hid (by rw [HRX.out, HQ.out]; exact HLE.out), by rw [HRX.out, HQ.out]; exact HOj, HBj⟩
                        · have hle := HLE.out
                          have hnext : (∃ t', c + rank ws j = F * t') ∨ R ≤ T + (c + rank ws j : Nat) := by
                            by_cases h : j < n
                            · right; omega
                            · left
                              obtain rfl : j = n := by omega
                              exact ⟨t + 1, by rw [HRN.out, HT.out, Nat.mul_add]; omega⟩
                          have hmore : c < c + rank ws j := by
                            have h1 := HIN.out.1
                            have h2 := HIN.out.2
                            by_cases h : j < n
                            · have : ¬ T + (c + rank ws j : Nat) < R := fun h' => hin2 ⟨h, h'⟩
                              omega
                            · obtain rfl : j = n := by omega
                              rw [HRN.out]; omega
                          have HNX := Lib.hid hnext
                          have HMO := Lib.hid hmore
                          obtain ⟨q, hq⟩ : ∃ q, c + rank ws j = q := ⟨_, rfl⟩
                          rw [hq] at HLE hle hin2 HOj HNX HMO ⊢
                          have hguard : j < n → decide (T + (q : Int) < R) = false := fun h => decide_eq_false fun h' => hin2 ⟨h, h'⟩
                          clear hnext hmore hq hrj d1 d2
                          by_cases hjn : j < n
                          · have j1 : (j : Int) < n := by omega
                            have d3 := hguard hjn
                            have q1 : (q : Int) ≤ 200 - T := by omega
                            clear hguard hin2 hjn hle
                            go_wp2_with fail
                            go_roundw
                            case measure => have h1 := HIN.out.1; have h2 := HMO.out; simp [intOf]; omega
                            case rel => exact ⟨q, rfl, .inl HLE.out, HNX.out, HOj, HBj⟩
                          · obtain rfl : n = j := by omega
                            have q1 : (q : Int) ≤ 200 - T := by omega
                            clear hguard hin2 hjn hle
                            go_wp2_with fail
                            go_roundw
                            case measure => have h1 := HIN.out.1; have h2 := HMO.out; simp [intOf]; omega
                            case rel => exact ⟨q, rfl, .inl HLE.out, HNX.out, HOj, HBj⟩
                    · have hc3 : R ≤ T + c ∨ F = 0 := by
                        rcases Nat.eq_zero_or_pos F with h | h
                        · exact .inr h
                        · left
                          by_cases h2 : T + (c : Int) < R
                          · exact absurd ⟨h2, h⟩ hin
                          · omega
                      have HC1 := Lib.hid hc1
                      have HC3 := Lib.hid hc3
                      by_cases hgx : T + (c : Int) < R
                      · have dgx : decide (T + (c : Int) < R) = true := decide_eq_true hgx
                        have dg2 : decide ((0 : Int) < F) = false := decide_eq_false (fun h => hin ⟨hgx, by omega⟩)
                        have dg3 : ¬ (0 : Int) < F := fun h => hin ⟨hgx, by omega⟩
                        have dg4 : ¬ 0 < F := fun h => hin ⟨hgx, h⟩
                        clear hc1 hc2 hc3 hin hgx
                        go_wp2_with fail
                        go_meet
                        case rel => exact ⟨c, rfl, hcb, HC1.out, HC3.out, HOc, HBc⟩
                      · have dgx : decide (T + (c : Int) < R) = false := decide_eq_false hgx
                        clear hc1 hc2 hc3 hin hgx
                        go_wp2_with fail
                        go_meet
                        case rel => exact ⟨c, rfl, hcb, HC1.out, HC3.out, HOc, HBc⟩
                case rest =>
                  obtain ⟨c, rfl, hcb, hc1, hc2, HOc, HBc⟩ := hcut
                  have hde := deal_end (ws := ws) (room := R) (c := c) (by rw [HSN.out]; exact hc1) (by rw [HSN.out, HF.out]; exact hc2)
                  rw [HSN.out, HF.out, HN.out] at hde
                  have hlb : ∀ x ∈ fnL n (dealG ws F c), 0 ≤ x ∧ x ≤ 2000 := fun x hx => by
                    obtain ⟨i, hi, rfl⟩ := List.mem_iff_getElem.1 hx
                    rw [fnL_at]
                    exact deal_bd HOK.out F c i hcb
                  have hl0 : (fnL n (dealG ws F c)).length = n := fnL_len _ _
                  obtain ⟨L0, hL0⟩ : ∃ L0, fnL n (dealG ws F c) = L0 := ⟨_, rfl⟩
                  rw [hL0] at hde hlb hl0 HOc
                  obtain ⟨U, hU⟩ : ∃ U, T + (c : Int) = U := ⟨_, rfl⟩
                  rw [hU] at hde ⊢
                  obtain ⟨D, hD⟩ : ∃ D, (U - R).toNat = D := ⟨_, rfl⟩
                  rw [hD] at hde
                  have HDE := Lib.hid hde
                  have HLB := Lib.hid hlb
                  have HL0 := Lib.hid hl0
                  have HD := Lib.hid hD
                  have u1 : 0 ≤ U := by omega
                  have u2 : U ≤ 1800 := by omega
                  have hD2 : D ≤ 1800 := by omega
                  clear hc1 hc2 hde hlb hl0 hL0 hU hcb
                  go_wp2_with fail
                  go_loopw [12] (fun a wr => ∃ k : Nat, a = .int .i64 (U - k) ∧ k ≤ D ∧ Hid (wr.ownsRow g 3 1 (.slice (some ⟨g, 0, none⟩) n n) n (numsZ (narrowN k L0))) ∧ Hid (Below g w0 wr)) (fun a _ => (intOf a - R).toNat)
                  case atStart => exact ⟨0, by simp, Nat.zero_le _, HOc, HBc⟩
                  case round =>
                    obtain ⟨k, rfl, hkD, HOk, HBk⟩ := hrel
                    obtain ⟨w4, rfl⟩ : ∃ w4 : World, w4 = wr := ⟨wr, rfl⟩
                    by_cases hlt : k < D
                    · have hgt : R < U - k := by omega
                      have d1 : decide (R < U - (k : Int)) = true := decide_eq_true hgt
                      have HLT := Lib.hid hlt
                      have HGT := Lib.hid hgt
                      have k2 : (k : Int) ≤ 1800 := by omega
                      obtain ⟨z, hz⟩ : ∃ z, narrowN k L0 = z := ⟨_, rfl⟩
                      have hzl : z.length = n := by rw [← hz, narrowN_len]; exact HL0.out
                      have HZ := Lib.hid hz
                      have hbd : ∀ x ∈ z, -2000 ≤ x ∧ x ≤ 2000 := fun x hx => by
                        have := narrowN_bd (lo := 0) (hi := 2000) k L0 0 (fun x hx => by have := HLB.out x hx; omega) x (by rw [hz]; exact hx)
                        omega
                      rw [hz] at HOk
                      have HZN := Lib.hid hzl
                      have HBD2 := Lib.hid hbd
                      clear hz hzl hbd hlt hgt
                      go_wp2_with fail
                      go_loopw [15, 16] (fun a i wr => ∃ m : Nat, i = .int .i64 m ∧ m ≤ n ∧ a = .int .i64 (widF z m : Nat) ∧ Hid (wr.ownsRow g 3 1 (.slice (some ⟨g, 0, none⟩) n n) n (numsZ z)) ∧ Hid (Below g w0 wr)) (fun _ i _ => n - (intOf i).toNat)
                      case atStart => exact ⟨0, rfl, Nat.zero_le _, rfl, HOk, HBk⟩
                      case round =>
                        obtain ⟨m, rfl, hm, rfl, HOm, HBm⟩ := hrel
                        obtain ⟨g', cap', e, _, _, _, hfz, hcl⟩ := own_at HOm.out HZN.out.symm hn1
                        cases e
                        have hwl := widF_lt z m (by rw [HZN.out]; exact hn1) (by rw [HZN.out]; exact hm)
                        rw [HZN.out] at hwl
                        by_cases hlt : m < n
                        · obtain ⟨a, ha⟩ : ∃ a, widF z m = a := ⟨_, rfl⟩
                          rw [ha] at hwl ⊢
                          have m1 : (m : Int) < n := by omega
                          have a1 : (a : Int) < n := by omega
                          have c1 := hcl m hlt
                          have c2 := hcl a hwl
                          have HLM := Lib.hid hlt
                          have HWS := Lib.hid (show widF z (m + 1) = if z.getD a 0 ≤ z.getD m 0 then m else a by unfold widF; rw [ha])
                          obtain ⟨x, hx⟩ : ∃ x, z.getD m 0 = x := ⟨_, rfl⟩
                          obtain ⟨y, hy⟩ : ∃ y, z.getD a 0 = y := ⟨_, rfl⟩
                          rw [hx] at c1 HWS
                          rw [hy] at c2 HWS
                          clear hfz hcl hlt hx hy ha
                          by_cases hle : y ≤ x
                          · have HW2 := Lib.hid (show widF z (m + 1) = m by rw [HWS.out, if_pos hle])
                            have d2 : decide (y ≤ x) = true := decide_eq_true hle
                            clear hle
                            go_upto_region 35 with fail
                            go_quiet (fail)
                            have HOq := Lib.hid (own_stays (W' := wr.drewN nq) HOm.out fun c _ => rfl)
                            have HBq := Lib.hid (dn_below HBm.out nq)
                            go_wp2_with fail
                            go_roundw
                            case measure => have := HLM.out; simp [intOf]; omega
                            case rel => exact ⟨m + 1, by go_num, HLM.out, by rw [HW2.out], HOq, HBq⟩
                          · have HW2 := Lib.hid (show widF z (m + 1) = a by rw [HWS.out, if_neg hle])
                            have d2 : decide (y ≤ x) = false := decide_eq_false hle
                            clear hle
                            go_upto_region 35 with fail
                            go_quiet (fail)
                            have HOq := Lib.hid (own_stays (W' := wr.drewN nq) HOm.out fun c _ => rfl)
                            have HBq := Lib.hid (dn_below HBm.out nq)
                            go_wp2_with fail
                            go_roundw
                            case measure => have := HLM.out; simp [intOf]; omega
                            case rel => exact ⟨m + 1, by go_num, HLM.out, by rw [HW2.out], HOq, HBq⟩
                        · obtain rfl : n = m := by omega
                          obtain ⟨a, ha⟩ : ∃ a, widF z n = a := ⟨_, rfl⟩
                          rw [ha] at hwl ⊢
                          have hzk2 : ¬ (n : Int) < n := by omega
                          have a1 : (a : Int) < n := by omega
                          have c2 := hcl a hwl
                          have f2 := hfz a
                          have HNX := Lib.hid (show narrowN (k + 1) L0 = z.set a (z.getD a 0 - 1) by rw [narrowN_snoc, HZ.out]; unfold narrow1; rw [HZN.out, ha])
                          have hyb := HBD2.out (z.getD a 0) (by rw [List.getD_eq_getElem?_getD, List.getElem?_eq_getElem (by rw [HZN.out]; exact hwl)]; exact List.getElem_mem _)
                          have hst := (HOm.out.stored a (.int .i64 (z.getD a 0 - 1))).1
                          have HST := Lib.hid (show (wr.setCell ⟨g, a, none⟩ (.int .i64 (z.getD a 0 - 1))).ownsRow g 3 1 (.slice (some ⟨g, 0, none⟩) n n) n (numsZ (z.set a (z.getD a 0 - 1))) from by rw [← numsZ_set]; exact hst)
                          have HBS := Lib.hid (HBm.out.setCell (p := ⟨g, a, none⟩) (Nat.le_refl _) (.int .i64 (z.getD a 0 - 1)))
                          obtain ⟨y, hy⟩ : ∃ y, z.getD a 0 = y := ⟨_, rfl⟩
                          rw [hy] at c2 HNX hyb HST HBS
                          have y1 := hyb.1
                          have y2 := hyb.2
                          clear hst hfz hcl hlt hy ha hyb hwl
                          go_wp2_with fail
                          go_roundw
                          case measure => have := HLT.out; have := HGT.out; simp [intOf]; omega
                          case rel => exact ⟨k + 1, by rw [show U - ((k + 1 : Nat) : Int) = U - k - 1 by omega], HLT.out, by rw [HNX.out]; exact HST, HBS⟩
                    · obtain rfl : k = D := by omega
                      have d1 : decide (R < U - (k : Int)) = false := decide_eq_false (by omega)
                      have k2 : (k : Int) ≤ 1800 := by omega
                      rw [HDE.out] at HOk
                      obtain ⟨zs, hzs⟩ : ∃ zs, widthsM ws R = zs := ⟨_, rfl⟩
                      rw [hzs] at HOk HM HBD HZL
                      obtain ⟨_, _, e3, _, _, _, _, hcz⟩ := own_at HOk.out HZL.out.symm hn1
                      cases e3
                      have HCZ := Lib.hid hcz
                      have HBW := Lib.hid (show Below w0.heap.size w0 w4 by have := HBk.out; rw [← HG.out] at this; exact this)
                      have hszw : g ≤ w4.heap.size := by have := HBk.out.size; omega
                      have HSW := Lib.hid hszw
                      clear hcz hzs hlt hszw
                      go_wp2_with fail
                      go_loopw [17, 18, 19] (fun ov a i wr => ∃ k : Nat, i = .int .i64 k ∧ k ≤ n ∧ a = .int .i64 (sumZ (zs.take k) + G * k) ∧ Hid (wr.ownsRow w4.heap.size 53 2 ov (colsAt G 0 (zs.take k)).length (rowsC (colsAt G 0 (zs.take k)))) ∧ Hid (Below w4.heap.size w4 wr)) (fun _ _ i _ => n - (intOf i).toNat)
                      case atStart => exact ⟨0, rfl, Nat.zero_le _, by simp [sumZ], Lib.hid (World.ownsRow_nil _ _ _ _), Lib.hid (Below.refl _ _)⟩
                      case round =>
                        obtain ⟨k, rfl, hkn, rfl, HOk2, HB2⟩ := hrel
                        by_cases hlt : k < n
                        · have k1 : (k : Int) < n := by omega
                          have hkz : k < zs.length := by rw [HZL.out]; exact hlt
                          have hge : zs.getD k 0 = zs[k] := by simp [List.getD_eq_getElem?_getD, hkz]
                          have HC9 := Lib.hid (HCZ.out k hlt)
                          rw [hge] at HC9
                          have hcz := (HB2.out.cell (p := ⟨g, k, none⟩) (cellInL HC9.out)).trans HC9.out
                          have hsb := sum_take_bd HBD.out k (by omega)
                          have hzb := HBD.out _ (List.getElem_mem hkz)
                          have HTS := Lib.hid (show sumZ (zs.take (k + 1)) = sumZ (zs.take k) + zs[k] by rw [List.take_succ_eq_append_getElem hkz, sumZ_app]; simp [sumZ])
                          have HTC := Lib.hid (show colsAt G 0 (zs.take (k + 1)) = colsAt G 0 (zs.take k) ++ [(sumZ (zs.take k) + G * k, zs[k])] by rw [List.take_succ_eq_append_getElem hkz, colsAt_snoc, List.length_take, Nat.min_eq_left (by omega), Int.zero_add])
                          have hgk : 0 ≤ G * k ∧ G * k ≤ 8 := by
                            rcases (show G = 0 ∨ G = 1 by omega) with e | e
                            · rw [e]; omega
                            · rw [e]; omega
                          have HGK := Lib.hid (show G * ((k + 1 : Nat) : Int) = G * k + G by rw [show ((k + 1 : Nat) : Int) = (k : Int) + 1 by omega, Int.mul_add, Int.mul_one])
                          have hcl := colsAt_len G 0 (zs.take k)
                          rw [List.length_take, Nat.min_eq_left (by omega)] at hcl
                          obtain ⟨z, hz⟩ : ∃ z, zs[k] = z := ⟨_, rfl⟩
                          rw [hz] at hcz hzb HTS HTC HC9
                          obtain ⟨A, hA⟩ : ∃ A, sumZ (zs.take k) + G * k = A := ⟨_, rfl⟩
                          have HAA := Lib.hid hA
                          rw [hA] at HTC ⊢
                          have a1 : -100000 ≤ A := by omega
                          have a2 : A ≤ 100000 := by omega
                          have z1 := hzb.1
                          have z2 := hzb.2
                          obtain ⟨cs, hcs⟩ : ∃ cs, colsAt G 0 (zs.take k) = cs := ⟨_, rfl⟩
                          rw [hcs] at HOk2 HTC hcl
                          rw [hcl] at HOk2
                          have HCL := Lib.hid hcl
                          obtain ⟨p3, c3, rfl⟩ := lenL HOk2.out
                          have hB := below_box wr (.cells #[.int .i64 A, .int .i64 z] 53)
                          have HO2 := Lib.hid (own_below HOk2.out hB)
                          have HB3 := Lib.hid (HB2.out.trans (hB.mono HB2.out.size))
                          have L1 := Lib.hid (show k + 1 ≤ maxLen by unfold maxLen; omega)
                          have L2 := Lib.hid (show (k + 1) * 16 ≤ 140737488355328 by omega)
                          have L3 := Lib.hid HB3.out.size
                          have HLT := Lib.hid hlt
                          have hcz3 := (hB.cell (p := ⟨g, k, none⟩) (cellInL hcz)).trans hcz
                          have HC0 := Lib.hid hcz3
                          have HC1 := Lib.hid hcz
                          have HON := Lib.hid (show ∀ u ∈ colRow (A, z), u.oneCell' = true from fun u hu => by
                            simp only [colRow, List.mem_cons, List.not_mem_nil, or_false] at hu
                            rcases hu with rfl | rfl <;> rfl)
                          obtain ⟨i0, hi0, hz0, hz1, hz2⟩ := info_parts infoC
                          clear hB hsb hzb hgk hz hA hcs hcl hlt hkz hge
                          go_wp2_with (at_builtin; go_loud (refine wpList_append_own _ rfl _ _ 23 rfl w4.heap.size 53 i0 _ 2 16 Try.underlying23 hi0 hz0 hz1 hz2 rfl (by decide) _ _ _ rfl HO2.out ⟨wr.heap.size, 0, none⟩ 1 1 (colRow (A, z)) rfl rfl (cells_newL _ _ _) HON.out L1.out L2.out L3.out ?_); intro v7 w7 hown7 hg7 _; have HO7 := Lib.hid hown7; have HB7 := Lib.hid (HB3.out.grown hg7 L3.out (fun c hc => (own_base HO2.out hc).1)); have hcz7 := (HB7.out.cell (p := ⟨g, k, none⟩) (cellInL HC9.out)).trans HC9.out; clear hown7 hg7)
                          have HO8 := Lib.hid (show w7.ownsRow w4.heap.size 53 2 v7 (colsAt G 0 (zs.take (k + 1))).length (rowsC (colsAt G 0 (zs.take (k + 1)))) by
                            rw [HTC.out, List.length_append, HCL.out, rowsC_snoc]; exact HO7.out)
                          go_wp2_with fail
                          go_roundw
                          case measure => have := HLT.out; simp [intOf]; omega
                          case rel => exact ⟨k + 1, by go_num, HLT.out, by rw [HTS.out, HGK.out, ← HAA.out]; congr 1; omega, HO8, HB7⟩
                        · obtain rfl : n = k := by omega
                          have hzk3 : ¬ (n : Int) < n := by omega
                          have HFL := Lib.hid (show colsAt G 0 (zs.take n) = colsL ws wide by rw [List.take_of_length_le (by rw [HZL.out]; exact Nat.le_refl _), HM.out])
                          obtain ⟨A, hA⟩ : ∃ A, sumZ (zs.take n) + G * n = A := ⟨_, rfl⟩
                          rw [hA]
                          clear hlt hA
                          go_wp2_with fail
                          go_ret2
                          refine ⟨_, by rw [HEO.out]; rfl, ?_, HBW.out.trans (HB2.out.mono HBW.out.size)⟩
                          have h := HOk2.out
                          rw [HFL.out] at h
                          exact (RdC.own h rfl).imp fun b _ hb => Nat.le_trans HBW.out.size hb
end Go.Proofs.Ytadecjjbpoaooaa.Tb
