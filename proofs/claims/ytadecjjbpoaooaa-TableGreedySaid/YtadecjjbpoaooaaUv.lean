/- Layer 12: the program's Columns; the law's columns of like ones. -/
import Derived.Test.YtadecjjbpoaooaaUu
namespace Go.Proofs.Ytadecjjbpoaooaa.Tb
open Go.RowKit Go.Maps
set_option linter.unusedVariables false
set_option linter.unusedSimpArgs false
theorem deal_bd {ws : List Int} (hk : OkWs ws) (f C i : Nat) (hC : C ≤ 200) : 0 ≤ dealG ws f C i ∧ dealG ws f C i ≤ 2000 := by
  have := wAt_ok hk i
  have := give_le f C (rank ws i)
  unfold dealG
  split <;> omega
theorem widths_bd {ws : List Int} (hk : OkWs ws) (h8 : ws.length ≤ 8) {room : Int} (h0 : 0 ≤ room) (h2 : room ≤ 200) : ∀ x ∈ widthsM ws room, -2000 ≤ x ∧ x ≤ 2000 := by
  have hs := sum_bd (base_ok hk) ws.length
  unfold widthsM
  split
  · intro x hx
    have := narrowN_bd (lo := 0) (hi := 2000) (sumZ (baseL ws) - room).toNat (baseL ws) 0 (fun x hx => by
      unfold baseL fnL at hx
      obtain ⟨j, _, rfl⟩ := List.mem_map.1 hx
      have := base_ok hk j
      omega) x hx
    unfold baseL at this hs
    omega
  · intro x hx
    unfold fnL at hx
    obtain ⟨j, _, rfl⟩ := List.mem_map.1 hx
    have := deal_bd hk (freeN ws) (room - sumZ (baseL ws)).toNat j (by
      unfold baseL
      omega)
    omega
theorem sum_take_bd {l : List Int} (h : ∀ x ∈ l, -2000 ≤ x ∧ x ≤ 2000) : ∀ k : Nat, k ≤ l.length → -2000 * k ≤ sumZ (l.take k) ∧ sumZ (l.take k) ≤ 2000 * k
  | 0, _ => by simp [sumZ]
  | k + 1, hk => by
    have ih := sum_take_bd h k (by omega)
    have := h _ (List.getElem_mem (show k < l.length by omega))
    rw [List.take_succ_eq_append_getElem (by omega), sumZ_app]
    simp only [sumZ]
    omega
theorem colsE_ok {ws : List Int} {wide : Int} (h1 : 10 ≤ wide) (h2 : wide ≤ 200) (h3 : 1 ≤ ws.length) (h4 : ws.length ≤ 8) (h5 : ws.any (fun w => !okW w) = false) : colsE ws wide = 0 := by
  unfold colsE
  rw [if_neg]
  rintro (h | h | h | h | h)
  · omega
  · omega
  · omega
  · omega
  · rw [h5] at h; cases h
theorem okWs_of {ws : List Int} (h : ws.any (fun w => !okW w) = false) : OkWs ws := fun w hw => by
  have := (List.any_eq_false.1 h) w hw
  simp [okW] at this
  exact this
theorem own_cells {W : World} {B n g cap : Nat} {l : List (Int × Int)} (h : W.ownsRow B 53 2 (.slice (some ⟨g, 0, none⟩) n cap) n (rowsC l)) (hn : n = l.length) {i : Nat} (hi : i < n) : W.cell? ⟨g, i * 2, none⟩ = some (.int .i64 (l.getD i (0, 0)).1) ∧ W.cell? ⟨g, i * 2 + 1, none⟩ = some (.int .i64 (l.getD i (0, 0)).2) ∧ W.frozen? ⟨g, i * 2, none⟩ = false ∧ W.frozen? ⟨g, i * 2 + 1, none⟩ = false := by
  have e : l.getD i (0, 0) = l[i]'(by omega) := by simp [List.getD_eq_getElem?_getD, show i < l.length by omega]
  refine ⟨?_, ?_, World.ownsRow.frozenAt h _, World.ownsRow.frozenAt h _⟩
  · have := World.ownsRow.cellAt h (i * 2 + 0) (by omega)
    rw [rowsC_at l i 0 (by omega) (by omega)] at this
    rw [e]; exact this
  · have := World.ownsRow.cellAt h (i * 2 + 1) (by omega)
    rw [rowsC_at l i 1 (by omega) (by omega)] at this
    rw [e]; exact this
theorem own_setC {W : World} {B n g cap : Nat} {l : List (Int × Int)} (h : W.ownsRow B 53 2 (.slice (some ⟨g, 0, none⟩) n cap) n (rowsC l)) {i : Nat} (hi : i < l.length) (a b : Int) : ((W.setCell ⟨g, i * 2, none⟩ (.int .i64 a)).setCell ⟨g, i * 2 + 1, none⟩ (.int .i64 b)).ownsRow B 53 2 (.slice (some ⟨g, 0, none⟩) n cap) n (rowsC (l.set i (a, b))) := by
  rw [← rowsC_set l i hi (a, b)]
  exact ((h.stored (i * 2) (.int .i64 a)).1.stored (i * 2 + 1) (.int .i64 b)).1
set_option maxRecDepth 100000 in
set_option maxHeartbeats 4000000 in
theorem columns_pro {P : Nat → Prop} (ws : List Int) (v : Value) (wide : Int) (w : World) (h : RdZ P w v ws) (hwf : (Lit.int .i64 wide).wf = true) :
    Calls Try.prog 7 #[v, .int .i64 wide] w (ColsPost ws wide w) := by
  obtain ⟨pa, cap, rfl, hc1, hc2⟩ := sliceZ h
  have HCO := Lib.hid (containsZ_pro ws _ w h)
  have HW1 := Lib.hid (within_pro wide 10 200 w)
  have HW2 := Lib.hid (within_pro ws.length 1 8 w)
  by_cases hw : 10 ≤ wide ∧ wide ≤ 200
  · have hwt : within wide 10 200 = true := decide_eq_true hw
    rw [hwt] at HW1
    by_cases hn8 : 1 ≤ ws.length ∧ ws.length ≤ 8
    · have hnt : within ws.length 1 8 = true := decide_eq_true (by omega)
      rw [hnt] at HW2
      cases hb : ws.any (fun w => !okW w) with
      | true =>
        rw [hb] at HCO
        have HE := Lib.hid (show colsE ws wide = 1 by unfold colsE; rw [hb]; simp)
        obtain ⟨n, hn⟩ : ∃ n, ws.length = n := ⟨_, rfl⟩
        rw [hn] at HW2 HCO
        rw [hn]
        clear h hc1 hw hwt hn8 hnt hb hn
        go_enter Try.func7, Try.ntmps7
        go_wp2_with fail
        refine HW1.out.mono ?_
        rintro e w1 ⟨rfl, rfl⟩
        go_wp2_with fail
        refine HW2.out.mono ?_
        rintro e w1 ⟨rfl, rfl⟩
        go_wp2_with fail
        refine HCO.out.mono ?_
        rintro e w1 ⟨rfl, rfl⟩
        go_wp2_with fail
        go_ret2
        exact cols_bad HE.out (Below.refl _ _)
      | false =>
        rw [hb] at HCO
        have hk := okWs_of hb
        have HEO := Lib.hid (colsE_ok hw.1 hw.2 hn8.1 hn8.2 hb)
        have hw1 := hw.1
        have hw2 := hw.2
        have hn1 := hn8.1
        have hn2 := hn8.2
        have HK := Lib.hid hk
        obtain ⟨R, hR⟩ : ∃ R, roomOf ws.length wide = R := ⟨_, rfl⟩
        obtain ⟨G, hG⟩ : ∃ G, gapOf ws.length wide = G := ⟨_, rfl⟩
        have hRb : 0 ≤ R ∧ R ≤ 200 := by rw [← hR]; unfold roomOf; split <;> omega
        have hGb : 0 ≤ G ∧ G ≤ 1 := by rw [← hG]; unfold gapOf; split <;> omega
        have HM := Lib.hid (show colsL ws wide = colsAt G 0 (widthsM ws R) by unfold colsL colsM; rw [HEO.out, hR, hG]; rfl)
        have HBD := Lib.hid (widths_bd hk hn2 hRb.1 hRb.2)
        have HZL := Lib.hid (widthsM_len ws R)
        have HSH := Lib.hid (fun (w' : World) (hb : Below w.heap.size w w') => share_pro ws (.slice pa ws.length cap) R w' (h.below hb) hn1 hn2 hk hRb)
        obtain ⟨zs, hzs⟩ : ∃ zs, widthsM ws R = zs := ⟨_, rfl⟩
        rw [hzs] at HM HBD HZL
        have HSZ := Lib.hid hzs
        obtain ⟨n, hn⟩ : ∃ n, ws.length = n := ⟨_, rfl⟩
        rw [hn] at HW2 HCO HSH HZL hn1 hn2 hR hG ⊢
        have hB := below_box w (.cells (madeCells #[.int .i64 0, .int .i64 0] (n * 2)) 53)
        have HB := Lib.hid hB
        have hmk := make_cols n (by omega) w
        have HO := Lib.hid (show (w.alloc (.cells (madeCells #[.int .i64 0, .int .i64 0] (n * 2)) 53)).ownsRow w.heap.size 53 2 (.slice (some ⟨w.heap.size, 0, none⟩) n n) n (rowsC (partC G zs 0)) from by
          have h := World.ownsRow_lit (e := 53) (size := 2) (base := w.heap.size) w (madeCells #[.int .i64 0, .int .i64 0] (n * 2)) n (Nat.le_refl _) (by unfold maxLen; omega) (by simp [madeCells])
          rw [made_cols] at h
          have e : partC G zs 0 = zeroC n := by simp [partC, colsAt, HZL.out]
          rw [e]
          exact h)
        have HSW := Lib.hid (HSH.out _ hB)
        obtain ⟨W1, hW1⟩ : ∃ W1, w.alloc (.cells (madeCells #[.int .i64 0, .int .i64 0] (n * 2)) 53) = W1 := ⟨_, rfl⟩
        rw [hW1] at HB HO HSW
        obtain ⟨g, hg⟩ : ∃ g, w.heap.size = g := ⟨_, rfl⟩
        have HG := Lib.hid hg
        rw [hg] at HO
        have G1 := hGb.1
        have G2 := hGb.2
        have R1 := hRb.1
        have R2 := hRb.2
        have hmono : ∀ e w', MakesZ (widthsM ws R) W1 e w' → ∃ v, e = .returned v ∧ w'.ownsRow W1.heap.size 3 1 v n (numsZ zs) ∧ Below W1.heap.size W1 w' := fun e w' hm => by
          obtain ⟨v, e1, e2, e3⟩ := hm
          rw [hzs, HZL.out] at e2
          exact ⟨v, e1, e2, e3⟩
        have HSM := Lib.hid hmono
        clear h hc1 hw hwt hn8 hnt hb hn hk hRb hGb hB hzs hmono
        by_cases hroom : wide - (n - 1) < n
        · obtain rfl : R = wide := by rw [← hR]; unfold roomOf; rw [if_pos hroom]
          obtain rfl : G = 0 := by rw [← hG]; unfold gapOf; rw [if_pos hroom]
          clear hR hG
          go_enter Try.func7, Try.ntmps7
          go_wp2_with fail
          refine HW1.out.mono ?_
          rintro e w1 ⟨rfl, rfl⟩
          go_wp2_with fail
          refine HW2.out.mono ?_
          rintro e w1 ⟨rfl, rfl⟩
          go_wp2_with fail
          refine HCO.out.mono ?_
          rintro e w1 ⟨rfl, rfl⟩
          go_wp2_with fail
          refine HSW.out.mono ?_
          intro e w3 hmz
          obtain ⟨v3, rfl, ho3, hb3⟩ := HSM.out e w3 hmz
          obtain ⟨g3, c3, rfl, hB3, hg3, hc3, _, _⟩ := own_at ho3 HZL.out.symm hn1
          have HO3 := Lib.hid ho3
          have HOC := Lib.hid (own_below HO.out hb3)
          have HBB := Lib.hid (show Below g w w3 by have := HB.out.trans (hb3.mono HB.out.size); rw [HG.out] at this; exact this)
          have HGG := Lib.hid (show g < g3 by have := (own_base HO.out (c := g) rfl).2; omega)
          clear hmz ho3 hb3 hmk hB3 hg3 hc3
          go_wp2_with fail
          go_loopw [10, 41] (fun at_ i wr => ∃ k : Nat, i = .int .i64 k ∧ k ≤ n ∧ at_ = .int .i64 (sumZ (zs.take k) + (0 : Int) * k) ∧ Hid (wr.ownsRow g 53 2 (.slice (some ⟨g, 0, none⟩) n n) n (rowsC (partC 0 zs k))) ∧ Hid (Below g w wr) ∧ Hid (wr.ownsRow W1.heap.size 3 1 (.slice (some ⟨g3, 0, none⟩) n c3) n (numsZ zs))) (fun _ i _ => n - (intOf i).toNat)
          case atStart => exact ⟨0, rfl, Nat.zero_le _, by simp [sumZ], HOC, HBB, HO3⟩
          case round =>
            obtain ⟨k, rfl, hkn, rfl, HOk, HBk, HZk⟩ := hrel
            by_cases hlt : k < n
            · have k1 : (k : Int) < n := by omega
              have hkz : k < zs.length := by rw [HZL.out]; exact hlt
              obtain ⟨_, _, e3, _, _, _, _, hcz⟩ := own_at HZk.out HZL.out.symm hn1
              cases e3
              have hcz := hcz k hlt
              have hge : zs.getD k 0 = zs[k] := by simp [List.getD_eq_getElem?_getD, hkz]
              rw [hge] at hcz
              have hsb := sum_take_bd HBD.out k (by omega)
              have hzb := HBD.out _ (List.getElem_mem hkz)
              have hpl := partC_len 0 zs k (by omega)
              obtain ⟨d0, d1, f0, f1⟩ := own_cells HOk.out (by rw [hpl, HZL.out]) hlt
              have HST := Lib.hid (own_setC HOk.out (i := k) (by rw [hpl]; exact hkz) (sumZ (zs.take k) + (0 : Int) * k) zs[k])
              rw [partC_set 0 zs k hkz] at HST
              have HB5 := Lib.hid ((HBk.out.setCell (p := ⟨g, k * 2, none⟩) (Nat.le_refl _) (.int .i64 (sumZ (zs.take k) + (0 : Int) * k))).setCell (p := ⟨g, k * 2 + 1, none⟩) (Nat.le_refl _) (.int .i64 zs[k]))
              have HZ5 := Lib.hid (own_stays (W' := (wr.setCell ⟨g, k * 2, none⟩ (.int .i64 (sumZ (zs.take k) + (0 : Int) * k))).setCell ⟨g, k * 2 + 1, none⟩ (.int .i64 zs[k])) HZk.out fun c hc => by
                have hc' : g3 = c := by simpa [Value.ownBlock] using hc
                have hne : c ≠ g := by have := HGG.out; omega
                exact (Below.heap_setCell _ _ _ _ hne).trans (Below.heap_setCell _ _ _ _ hne))
              have HTS := Lib.hid (show sumZ (zs.take (k + 1)) = sumZ (zs.take k) + zs[k] by rw [List.take_succ_eq_append_getElem hkz, sumZ_app]; simp [sumZ])
              have hgk : (0 : Int) ≤ (0 : Int) * k ∧ (0 : Int) * k ≤ 8 := by omega
              have HGK := Lib.hid (show (0 : Int) * ((k + 1 : Nat) : Int) = (0 : Int) * k + 0 by omega)
              obtain ⟨z, hz⟩ : ∃ z, zs[k] = z := ⟨_, rfl⟩
              rw [hz] at hcz hzb HST HB5 HZ5 HTS
              obtain ⟨A, hA⟩ : ∃ A, sumZ (zs.take k) + (0 : Int) * k = A := ⟨_, rfl⟩
              have HAA := Lib.hid hA
              have hAb : -20000 ≤ A ∧ A ≤ 20000 := by omega
              rw [hA] at HST HB5 HZ5 ⊢
              obtain ⟨u0, hu0⟩ : ∃ u0, ((partC 0 zs k).getD k (0, 0)).1 = u0 := ⟨_, rfl⟩
              obtain ⟨u1, hu1⟩ : ∃ u1, ((partC 0 zs k).getD k (0, 0)).2 = u1 := ⟨_, rfl⟩
              rw [hu0] at d0
              rw [hu1] at d1
              have a1 := hAb.1
              have a2 := hAb.2
              have z1 := hzb.1
              have z2 := hzb.2
              have HLT := Lib.hid hlt
              have HAN := Lib.hid (show A + (z + 0) = sumZ (zs.take (k + 1)) + (0 : Int) * ((k + 1 : Nat) : Int) by rw [HTS.out, HGK.out, ← hA]; omega)
              clear hkz hge hsb hzb hpl hgk hz hA hAb hlt hu0 hu1
              go_wp2_with fail
              go_roundw
              case measure => have := HLT.out; simp [intOf]; omega
              case rel => exact ⟨k + 1, by go_num, HLT.out, by (rw [← HAN.out]) <;> simp, HST, HB5, HZ5⟩
            · obtain rfl : k = n := by omega
              have hzk : ¬ (k : Int) < k := by omega
              have HFI := Lib.hid (show partC 0 zs k = colsAt 0 0 zs by unfold partC; rw [List.take_of_length_le (by rw [HZL.out]; exact Nat.le_refl _), HZL.out, Nat.sub_self]; simp [zeroC])
              clear hlt
              go_wp2_with fail
              go_ret2
              exact ⟨.slice (some ⟨g, 0, none⟩) k k, by rw [HEO.out]; rfl, by
                have h := HOk.out
                rw [HFI.out] at h
                rw [HM.out, HG.out]
                exact RdC.own h (by rw [colsAt_len]; exact HZL.out.symm), by rw [HG.out]; exact HBk.out⟩
        · obtain rfl : R = wide - ((n : Int) - 1) := by rw [← hR]; unfold roomOf; rw [if_neg hroom]
          obtain rfl : G = 1 := by rw [← hG]; unfold gapOf; rw [if_neg hroom]
          clear hR hG
          go_enter Try.func7, Try.ntmps7
          go_wp2_with fail
          refine HW1.out.mono ?_
          rintro e w1 ⟨rfl, rfl⟩
          go_wp2_with fail
          refine HW2.out.mono ?_
          rintro e w1 ⟨rfl, rfl⟩
          go_wp2_with fail
          refine HCO.out.mono ?_
          rintro e w1 ⟨rfl, rfl⟩
          go_wp2_with fail
          refine HSW.out.mono ?_
          intro e w3 hmz
          obtain ⟨v3, rfl, ho3, hb3⟩ := HSM.out e w3 hmz
          obtain ⟨g3, c3, rfl, hB3, hg3, hc3, _, _⟩ := own_at ho3 HZL.out.symm hn1
          have HO3 := Lib.hid ho3
          have HOC := Lib.hid (own_below HO.out hb3)
          have HBB := Lib.hid (show Below g w w3 by have := HB.out.trans (hb3.mono HB.out.size); rw [HG.out] at this; exact this)
          have HGG := Lib.hid (show g < g3 by have := (own_base HO.out (c := g) rfl).2; omega)
          clear hmz ho3 hb3 hmk hB3 hg3 hc3
          go_wp2_with fail
          go_loopw [10, 41] (fun at_ i wr => ∃ k : Nat, i = .int .i64 k ∧ k ≤ n ∧ at_ = .int .i64 (sumZ (zs.take k) + (1 : Int) * k) ∧ Hid (wr.ownsRow g 53 2 (.slice (some ⟨g, 0, none⟩) n n) n (rowsC (partC 1 zs k))) ∧ Hid (Below g w wr) ∧ Hid (wr.ownsRow W1.heap.size 3 1 (.slice (some ⟨g3, 0, none⟩) n c3) n (numsZ zs))) (fun _ i _ => n - (intOf i).toNat)
          case atStart => exact ⟨0, rfl, Nat.zero_le _, by simp [sumZ], HOC, HBB, HO3⟩
          case round =>
            obtain ⟨k, rfl, hkn, rfl, HOk, HBk, HZk⟩ := hrel
            by_cases hlt : k < n
            · have k1 : (k : Int) < n := by omega
              have hkz : k < zs.length := by rw [HZL.out]; exact hlt
              obtain ⟨_, _, e3, _, _, _, _, hcz⟩ := own_at HZk.out HZL.out.symm hn1
              cases e3
              have hcz := hcz k hlt
              have hge : zs.getD k 0 = zs[k] := by simp [List.getD_eq_getElem?_getD, hkz]
              rw [hge] at hcz
              have hsb := sum_take_bd HBD.out k (by omega)
              have hzb := HBD.out _ (List.getElem_mem hkz)
              have hpl := partC_len 1 zs k (by omega)
              obtain ⟨d0, d1, f0, f1⟩ := own_cells HOk.out (by rw [hpl, HZL.out]) hlt
              have HST := Lib.hid (own_setC HOk.out (i := k) (by rw [hpl]; exact hkz) (sumZ (zs.take k) + (1 : Int) * k) zs[k])
              rw [partC_set 1 zs k hkz] at HST
              have HB5 := Lib.hid ((HBk.out.setCell (p := ⟨g, k * 2, none⟩) (Nat.le_refl _) (.int .i64 (sumZ (zs.take k) + (1 : Int) * k))).setCell (p := ⟨g, k * 2 + 1, none⟩) (Nat.le_refl _) (.int .i64 zs[k]))
              have HZ5 := Lib.hid (own_stays (W' := (wr.setCell ⟨g, k * 2, none⟩ (.int .i64 (sumZ (zs.take k) + (1 : Int) * k))).setCell ⟨g, k * 2 + 1, none⟩ (.int .i64 zs[k])) HZk.out fun c hc => by
                have hc' : g3 = c := by simpa [Value.ownBlock] using hc
                have hne : c ≠ g := by have := HGG.out; omega
                exact (Below.heap_setCell _ _ _ _ hne).trans (Below.heap_setCell _ _ _ _ hne))
              have HTS := Lib.hid (show sumZ (zs.take (k + 1)) = sumZ (zs.take k) + zs[k] by rw [List.take_succ_eq_append_getElem hkz, sumZ_app]; simp [sumZ])
              have hgk : (0 : Int) ≤ (1 : Int) * k ∧ (1 : Int) * k ≤ 8 := by omega
              have HGK := Lib.hid (show (1 : Int) * ((k + 1 : Nat) : Int) = (1 : Int) * k + 1 by omega)
              obtain ⟨z, hz⟩ : ∃ z, zs[k] = z := ⟨_, rfl⟩
              rw [hz] at hcz hzb HST HB5 HZ5 HTS
              obtain ⟨A, hA⟩ : ∃ A, sumZ (zs.take k) + (1 : Int) * k = A := ⟨_, rfl⟩
              have HAA := Lib.hid hA
              have hAb : -20000 ≤ A ∧ A ≤ 20000 := by omega
              rw [hA] at HST HB5 HZ5 ⊢
              obtain ⟨u0, hu0⟩ : ∃ u0, ((partC 1 zs k).getD k (0, 0)).1 = u0 := ⟨_, rfl⟩
              obtain ⟨u1, hu1⟩ : ∃ u1, ((partC 1 zs k).getD k (0, 0)).2 = u1 := ⟨_, rfl⟩
              rw [hu0] at d0
              rw [hu1] at d1
              have a1 := hAb.1
              have a2 := hAb.2
              have z1 := hzb.1
              have z2 := hzb.2
              have HLT := Lib.hid hlt
              have HAN := Lib.hid (show A + (z + 1) = sumZ (zs.take (k + 1)) + (1 : Int) * ((k + 1 : Nat) : Int) by rw [HTS.out, HGK.out, ← hA]; omega)
              clear hkz hge hsb hzb hpl hgk hz hA hAb hlt hu0 hu1
              go_wp2_with fail
              go_roundw
              case measure => have := HLT.out; simp [intOf]; omega
              case rel => exact ⟨k + 1, by go_num, HLT.out, by (rw [← HAN.out]) <;> simp, HST, HB5, HZ5⟩
            · obtain rfl : k = n := by omega
              have hzk : ¬ (k : Int) < k := by omega
              have HFI := Lib.hid (show partC 1 zs k = colsAt 1 0 zs by unfold partC; rw [List.take_of_length_le (by rw [HZL.out]; exact Nat.le_refl _), HZL.out, Nat.sub_self]; simp [zeroC])
              clear hlt
              go_wp2_with fail
              go_ret2
              exact ⟨.slice (some ⟨g, 0, none⟩) k k, by rw [HEO.out]; rfl, by
                have h := HOk.out
                rw [HFI.out] at h
                rw [HM.out, HG.out]
                exact RdC.own h (by rw [colsAt_len]; exact HZL.out.symm), by rw [HG.out]; exact HBk.out⟩
    · have hnt : within ws.length 1 8 = false := decide_eq_false (by omega)
      rw [hnt] at HW2
      have HE := Lib.hid (show colsE ws wide = 1 by unfold colsE; rw [if_pos (by omega)])
      obtain ⟨n, hn⟩ : ∃ n, ws.length = n := ⟨_, rfl⟩
      rw [hn] at HW2
      rw [hn]
      clear h hc1 hw hwt hn8 hnt hn HCO
      go_enter Try.func7, Try.ntmps7
      go_wp2_with fail
      refine HW1.out.mono ?_
      rintro e w1 ⟨rfl, rfl⟩
      go_wp2_with fail
      refine HW2.out.mono ?_
      rintro e w1 ⟨rfl, rfl⟩
      go_wp2_with fail
      go_ret2
      exact cols_bad HE.out (Below.refl _ _)
  · have hwt : within wide 10 200 = false := decide_eq_false hw
    rw [hwt] at HW1
    have HE := Lib.hid (show colsE ws wide = 1 by unfold colsE; rw [if_pos (by omega)])
    clear h hc1 hw hwt
    go_enter Try.func7, Try.ntmps7
    go_wp2_with fail
    refine HW1.out.mono ?_
    rintro e w1 ⟨rfl, rfl⟩
    go_wp2_with fail
    go_ret2
    exact cols_bad HE.out (Below.refl _ _)
end Go.Proofs.Ytadecjjbpoaooaa.Tb
