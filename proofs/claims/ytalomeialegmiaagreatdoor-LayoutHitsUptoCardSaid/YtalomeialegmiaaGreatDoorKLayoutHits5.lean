/- What is proved: LayoutHits holds of all lines, layouts and places (the statement's second form). Its condition: what comes in is of bulk at most 1048576. Part 5: its texts. -/
import Derived.Test.YtalomeialegmiaaGreatDoorKLayoutHits1
import Derived.Deep.RegionHeld3
import Derived.WalkMore
import Derived.Deep.CutRange
import Derived.Lib.AppendZerosOnto
import Derived.Laws.CopyRow
import Derived.Laws.CopyOwn
section
namespace Go.Proofs.YtalomeialegmiaaGreatDoor.Tb
open Go.RowKit Go.Maps
set_option linter.unusedVariables false
set_option linter.unusedSimpArgs false
theorem enters_noWidth : Enters 119 := enters Tryz.func119 (by kernel_rfl) (by kernel_rfl)
theorem okW_within (x : Int) : within x 0 200 = okW x := rfl
set_option maxRecDepth 100000 in
theorem noWidth_pro (x : Int) (w : World) : Calls Tryz.prog 119 #[.int .i64 x] w fun e w' => e = .returned (.bool (!okW x)) ∧ w = w' := by
  have HW := Lib.hid (within_pro x 0 200 w)
  rw [okW_within] at HW
  go_enter Tryz.func119, Tryz.ntmps119
  go_wp2_with fail
  refine HW.out.mono ?_
  rintro e w1 ⟨rfl, rfl⟩
  go_wp2_with fail
  go_ret
  exact ⟨rfl, rfl⟩
def IdxZ (l : List Int) (w : World) (e : Ending) (w' : World) : Prop := w = w' ∧ ∃ i : Int, e = .returned (.int .i64 i) ∧ (l.any (fun x => !okW x) = decide (0 ≤ i))
set_option maxRecDepth 100000 in
set_option maxHeartbeats 1000000 in
theorem indexZ_pro {P : Nat → Prop} (l : List Int) (v : Value) (w : World) (h : RdZ P w v l) : Calls Tryz.prog 149 #[v, .func (.func 119) #[] #[]] w (IdxZ l w) := by
  obtain ⟨pa, cap, rfl, h1, h2⟩ := sliceZ h
  have HH := Lib.hid h
  obtain ⟨n, hn⟩ : ∃ n, l.length = n := ⟨_, rfl⟩
  have HN := Lib.hid hn
  rw [hn] at HH h1 ⊢
  have hn62 : n ≤ 9223372036854775807 := by omega
  clear h hn h1
  go_enter Tryz.func149, Tryz.ntmps149
  go_wp2_with fail
  go_loop [8] (fun i => ∃ k : Nat, i = .int .i64 k ∧ k ≤ n ∧ Hid (∀ j (hj : j < l.length), j < k → okW l[j] = true)) (fun i => n - (intOf i).toNat)
  case atStart => exact ⟨0, rfl, Nat.zero_le _, Lib.hid (fun j _ h => absurd h (Nat.not_lt_zero _))⟩
  case round =>
    obtain ⟨k, rfl, hk, HK⟩ := hrel
    by_cases hlt : k < n
    · have hkl : k < l.length := by rw [HN.out]; exact hlt
      obtain ⟨b, off, rfl, hc⟩ := HH.out.cell hkl
      obtain ⟨x, hx⟩ : ∃ x, l[k] = x := ⟨_, rfl⟩
      rw [hx] at hc
      have HX := Lib.hid hx
      have HC := Lib.hid (noWidth_pro x w)
      obtain ⟨z, hz⟩ : ∃ z, okW x = z := ⟨_, rfl⟩
      rw [hz] at HC
      have HZ := Lib.hid hz
      have hE := enters_noWidth #[.int .i64 x] w
      have k1 : (k : Int) < n := by omega
      have HLT := Lib.hid hlt
      clear hx hz hlt
      cases z with
      | false =>
        go_wp2_with fail
        refine HC.out.mono ?_
        rintro e w1 ⟨rfl, rfl⟩
        go_wp2_with fail
        go_ret
        exact ⟨rfl, _, rfl, by rw [decide_eq_true (by omega : (0 : Int) ≤ k)]; exact List.any_eq_true.2 ⟨_, List.getElem_mem hkl, by rw [HX.out, HZ.out]; rfl⟩⟩
      | true =>
        go_wp2_with fail
        refine HC.out.mono ?_
        rintro e w1 ⟨rfl, rfl⟩
        go_wp2_with fail
        go_round
        case measure => have := HLT.out; simp [intOf]; omega
        case rel =>
          refine ⟨k + 1, by go_num, HLT.out, Lib.hid (fun j hj hjk => ?_)⟩
          rcases Nat.lt_or_ge j k with h | h
          · exact HK.out j hj h
          · obtain rfl : j = k := by omega
            rw [HX.out]; exact HZ.out
    · obtain rfl : k = n := by omega
      have hz1 : ¬ (k : Int) < k := by omega
      clear hlt
      go_wp2_with fail
      go_ret
      refine ⟨rfl, _, rfl, ?_⟩
      have : l.any (fun x => !okW x) = false := by
        rw [List.any_eq_false]
        intro x hx
        obtain ⟨j, hj, rfl⟩ := List.mem_iff_getElem.1 hx
        simp [HK.out j hj (by rw [← HN.out]; exact hj)]
      rw [this]; rfl
set_option maxRecDepth 100000 in
theorem containsZ_pro {P : Nat → Prop} (l : List Int) (v : Value) (w : World) (h : RdZ P w v l) : Calls Tryz.prog 118 #[v, .func (.func 119) #[] #[]] w fun e w' => e = .returned (.bool (l.any (fun x => !okW x))) ∧ w = w' := by
  obtain ⟨pa, cap, rfl, h1, h2⟩ := sliceZ h
  have HI := Lib.hid (indexZ_pro l _ w h)
  clear h h1 h2
  go_enter Tryz.func118, Tryz.ntmps118
  go_wp2_with fail
  refine HI.out.mono ?_
  rintro e w1 ⟨rfl, i, rfl, hi⟩
  have HE := Lib.hid hi
  clear hi
  go_wp2_with fail
  go_ret
  exact ⟨by rw [HE.out]; rfl, rfl⟩
theorem make_cols (N : Nat) (hN : N ≤ 1000) (w : World) : (Instr.makeSlice 91 (.int .i64 (N : Int)) (.int .i64 (N : Int))).run Tryz.prog w = .ok (.slice (some ⟨w.heap.size, 0, none⟩) N N) (w.alloc (.cells (madeCells #[.int .i64 0, .int .i64 0] (N * 2)) 189)) := by
  obtain ⟨i0, hi0, hz0, hz1, hz2⟩ := info_parts infoC
  have h := run_make (P := Tryz.prog) w 91 189 i0 (.agg #[.int .i64 0, .int .i64 0]) Tryz.underlying91 hi0 hz0 .i64 .i64 (N : Int) (N : Int) (by omega) (by omega) (by rw [hz2]; omega) (by omega)
  rw [hz1, show (N : Int).toNat = N by omega] at h
  exact h
def zeroC (N : Nat) : List (Int × Int) := List.replicate N (0, 0)
theorem rowsC_zero : ∀ N : Nat, rowsC (zeroC N) = List.replicate (N * 2) (.int .i64 0)
  | 0 => rfl
  | N + 1 => by
    have := rowsC_zero N
    unfold zeroC rowsC at this ⊢
    rw [List.replicate_succ, List.flatMap_cons, this, show (N + 1) * 2 = N * 2 + 1 + 1 by omega, List.replicate_succ, List.replicate_succ]
    rfl
theorem made_cols (N : Nat) : (madeCells #[.int .i64 0, .int .i64 0] (N * 2)).toList = rowsC (zeroC N) := by
  rw [rowsC_zero]
  apply List.ext_getElem?
  intro j
  simp [madeCells]
  by_cases h : j < N * 2
  · have : j % 2 = 0 ∨ j % 2 = 1 := by omega
    rcases this with e | e <;> simp [h, e]
  · simp [h]
theorem rowsC_set : ∀ (l : List (Int × Int)) (i : Nat) (h : i < l.length) (c : Int × Int), ((rowsC l).set (i * 2) (.int .i64 c.1)).set (i * 2 + 1) (.int .i64 c.2) = rowsC (l.set i c)
  | [], i, h, _ => absurd h (by simp)
  | r :: l, 0, _, c => by simp [rowsC, colRow]
  | r :: l, i + 1, h, c => by
    have ih := rowsC_set l i (by simpa using h) c
    have e : ∀ (a : Int × Int) (m : List (Int × Int)), rowsC (a :: m) = colRow a ++ rowsC m := fun a m => by simp [rowsC]
    rw [List.set_cons_succ, e, e, List.set_append_right _ _ (by simp [colRow]; omega), List.set_append_right _ _ (by simp [colRow]; omega), show (colRow r).length = 2 from rfl, show (i + 1) * 2 - 2 = i * 2 by omega, show (i + 1) * 2 + 1 - 2 = i * 2 + 1 by omega, ih]
/-- What Columns answers. -/
def ColsPost (ws : List Int) (wide : Int) (w : World) (e : Ending) (w' : World) : Prop := ∃ v, e = .returned (.tuple #[v, .int .i64 (colsE ws wide)]) ∧ RdC (w.heap.size ≤ ·) w' v (colsL ws wide) ∧ Below w.heap.size w w'
theorem cols_bad {ws : List Int} {wide : Int} {w w' : World} (h : colsE ws wide = 1) (hb : Below w.heap.size w w') : ColsPost ws wide w (.returned (.tuple #[.slice none 0 0, .int .i64 1])) w' :=
  ⟨.slice none 0 0, by rw [h], ⟨none, 0, by unfold colsL; rw [h]; rfl, by unfold colsL; rw [h]; exact Nat.le_refl _, Nat.zero_le _, fun j hj => absurd hj (by unfold colsL; rw [h]; simp)⟩, hb⟩
/-- The columns so far, and empty ones. -/
def partC (gap : Int) (zs : List Int) (k : Nat) : List (Int × Int) := colsAt gap 0 (zs.take k) ++ zeroC (zs.length - k)
theorem partC_len (gap : Int) (zs : List Int) (k : Nat) (h : k ≤ zs.length) : (partC gap zs k).length = zs.length := by
  simp [partC, colsAt_len, zeroC]
  omega
theorem partC_set (gap : Int) (zs : List Int) (k : Nat) (h : k < zs.length) : (partC gap zs k).set k (sumZ (zs.take k) + gap * k, zs[k]) = partC gap zs (k + 1) := by
  unfold partC
  have hl : (colsAt gap 0 (zs.take k)).length = k := by rw [colsAt_len, List.length_take]; omega
  rw [List.set_append_right _ _ (by omega), hl, Nat.sub_self, List.take_succ_eq_append_getElem h, colsAt_snoc, List.append_assoc]
  congr 1
  rw [show zs.length - k = (zs.length - (k + 1)) + 1 by omega]
  unfold zeroC
  rw [List.replicate_succ, List.set_cons_zero, List.length_take, Nat.min_eq_left (by omega)]
  simp
end Go.Proofs.YtalomeialegmiaaGreatDoor.Tb
end
section
namespace Go.Proofs.YtalomeialegmiaaGreatDoor.Tb
open Go.RowKit Go.Maps
set_option linter.unusedVariables false
set_option linter.unusedSimpArgs false
theorem deal_bd {ws : List Int} (hk : OkWs ws) (f C i : Nat) (hC : C ≤ 200) : 0 ≤ dealG ws f C i ∧ dealG ws f C i ≤ 2000 := by
  have := wAt_ok hk i
  have := give_le f C (rank ws i)
  unfold dealG
  split <;> omega
theorem widths_bd {ws : List Int} (hk : OkWs ws) (h8 : ws.length ≤ 8) {room : Int} (h0 : 0 ≤ room) (h2 : room ≤ 200) : ∀ x ∈ widthsM ws room, -2000 ≤ x ∧ x ≤ 2000 := by
  have hs := sum_bd (base_ok hk) ws.length
  unfold widthsM
  split
  · intro x hx
    have := narrowN_bd (lo := 0) (hi := 2000) (sumZ (baseL ws) - room).toNat (baseL ws) 0 (fun x hx => by
      unfold baseL fnL at hx
      obtain ⟨j, _, rfl⟩ := List.mem_map.1 hx
      have := base_ok hk j
      omega) x hx
    unfold baseL at this hs
    omega
  · intro x hx
    unfold fnL at hx
    obtain ⟨j, _, rfl⟩ := List.mem_map.1 hx
    have := deal_bd hk (freeN ws) (room - sumZ (baseL ws)).toNat j (by
      unfold baseL
      omega)
    omega
theorem sum_take_bd {l : List Int} (h : ∀ x ∈ l, -2000 ≤ x ∧ x ≤ 2000) : ∀ k : Nat, k ≤ l.length → -2000 * k ≤ sumZ (l.take k) ∧ sumZ (l.take k) ≤ 2000 * k
  | 0, _ => by simp [sumZ]
  | k + 1, hk => by
    have ih := sum_take_bd h k (by omega)
    have := h _ (List.getElem_mem (show k < l.length by omega))
    rw [List.take_succ_eq_append_getElem (by omega), sumZ_app]
    simp only [sumZ]
    omega
theorem colsE_ok {ws : List Int} {wide : Int} (h1 : 10 ≤ wide) (h2 : wide ≤ 200) (h3 : 1 ≤ ws.length) (h4 : ws.length ≤ 8) (h5 : ws.any (fun w => !okW w) = false) : colsE ws wide = 0 := by
  unfold colsE
  rw [if_neg]
  rintro (h | h | h | h | h)
  · omega
  · omega
  · omega
  · omega
  · rw [h5] at h; cases h
theorem okWs_of {ws : List Int} (h : ws.any (fun w => !okW w) = false) : OkWs ws := fun w hw => by
  have := (List.any_eq_false.1 h) w hw
  simp [okW] at this
  exact this
theorem own_cells {W : World} {B n g cap : Nat} {l : List (Int × Int)} (h : W.ownsRow B 189 2 (.slice (some ⟨g, 0, none⟩) n cap) n (rowsC l)) (hn : n = l.length) {i : Nat} (hi : i < n) : W.cell? ⟨g, i * 2, none⟩ = some (.int .i64 (l.getD i (0, 0)).1) ∧ W.cell? ⟨g, i * 2 + 1, none⟩ = some (.int .i64 (l.getD i (0, 0)).2) ∧ W.frozen? ⟨g, i * 2, none⟩ = false ∧ W.frozen? ⟨g, i * 2 + 1, none⟩ = false := by
  have e : l.getD i (0, 0) = l[i]'(by omega) := by simp [List.getD_eq_getElem?_getD, show i < l.length by omega]
  refine ⟨?_, ?_, World.ownsRow.frozenAt h _, World.ownsRow.frozenAt h _⟩
  · have := World.ownsRow.cellAt h (i * 2 + 0) (by omega)
    rw [rowsC_at l i 0 (by omega) (by omega)] at this
    rw [e]; exact this
  · have := World.ownsRow.cellAt h (i * 2 + 1) (by omega)
    rw [rowsC_at l i 1 (by omega) (by omega)] at this
    rw [e]; exact this
theorem own_setC {W : World} {B n g cap : Nat} {l : List (Int × Int)} (h : W.ownsRow B 189 2 (.slice (some ⟨g, 0, none⟩) n cap) n (rowsC l)) {i : Nat} (hi : i < l.length) (a b : Int) : ((W.setCell ⟨g, i * 2, none⟩ (.int .i64 a)).setCell ⟨g, i * 2 + 1, none⟩ (.int .i64 b)).ownsRow B 189 2 (.slice (some ⟨g, 0, none⟩) n cap) n (rowsC (l.set i (a, b))) := by
  rw [← rowsC_set l i hi (a, b)]
  exact ((h.stored (i * 2) (.int .i64 a)).1.stored (i * 2 + 1) (.int .i64 b)).1
set_option maxRecDepth 100000 in
set_option maxHeartbeats 4000000 in
theorem columns_pro {P : Nat → Prop} (ws : List Int) (v : Value) (wide : Int) (w : World) (h : RdZ P w v ws) (hwf : (Lit.int .i64 wide).wf = true) :
    Calls Tryz.prog 69 #[v, .int .i64 wide] w (ColsPost ws wide w) := by
  obtain ⟨pa, cap, rfl, hc1, hc2⟩ := sliceZ h
  have HCO := Lib.hid (containsZ_pro ws _ w h)
  have HW1 := Lib.hid (within_pro wide 10 200 w)
  have HW2 := Lib.hid (within_pro ws.length 1 8 w)
  by_cases hw : 10 ≤ wide ∧ wide ≤ 200
  · have hwt : within wide 10 200 = true := decide_eq_true hw
    rw [hwt] at HW1
    by_cases hn8 : 1 ≤ ws.length ∧ ws.length ≤ 8
    · have hnt : within ws.length 1 8 = true := decide_eq_true (by omega)
      rw [hnt] at HW2
      cases hb : ws.any (fun w => !okW w) with
      | true =>
        rw [hb] at HCO
        have HE := Lib.hid (show colsE ws wide = 1 by unfold colsE; rw [hb]; simp)
        obtain ⟨n, hn⟩ : ∃ n, ws.length = n := ⟨_, rfl⟩
        rw [hn] at HW2 HCO
        rw [hn]
        clear h hc1 hw hwt hn8 hnt hb hn
        go_enter Tryz.func69, Tryz.ntmps69
        go_wp2_with fail
        refine HW1.out.mono ?_
        rintro e w1 ⟨rfl, rfl⟩
        go_wp2_with fail
        refine HW2.out.mono ?_
        rintro e w1 ⟨rfl, rfl⟩
        go_wp2_with fail
        refine HCO.out.mono ?_
        rintro e w1 ⟨rfl, rfl⟩
        go_wp2_with fail
        go_ret2
        exact cols_bad HE.out (Below.refl _ _)
      | false =>
        rw [hb] at HCO
        have hk := okWs_of hb
        have HEO := Lib.hid (colsE_ok hw.1 hw.2 hn8.1 hn8.2 hb)
        have hw1 := hw.1
        have hw2 := hw.2
        have hn1 := hn8.1
        have hn2 := hn8.2
        have HK := Lib.hid hk
        obtain ⟨R, hR⟩ : ∃ R, roomOf ws.length wide = R := ⟨_, rfl⟩
        obtain ⟨G, hG⟩ : ∃ G, gapOf ws.length wide = G := ⟨_, rfl⟩
        have hRb : 0 ≤ R ∧ R ≤ 200 := by rw [← hR]; unfold roomOf; split <;> omega
        have hGb : 0 ≤ G ∧ G ≤ 1 := by rw [← hG]; unfold gapOf; split <;> omega
        have HM := Lib.hid (show colsL ws wide = colsAt G 0 (widthsM ws R) by unfold colsL colsM; rw [HEO.out, hR, hG]; rfl)
        have HBD := Lib.hid (widths_bd hk hn2 hRb.1 hRb.2)
        have HZL := Lib.hid (widthsM_len ws R)
        have HSH := Lib.hid (fun (w' : World) (hb : Below w.heap.size w w') => share_pro ws (.slice pa ws.length cap) R w' (h.below hb) hn1 hn2 hk hRb)
        obtain ⟨zs, hzs⟩ : ∃ zs, widthsM ws R = zs := ⟨_, rfl⟩
        rw [hzs] at HM HBD HZL
        have HSZ := Lib.hid hzs
        obtain ⟨n, hn⟩ : ∃ n, ws.length = n := ⟨_, rfl⟩
        rw [hn] at HW2 HCO HSH HZL hn1 hn2 hR hG ⊢
        have hB := below_box w (.cells (madeCells #[.int .i64 0, .int .i64 0] (n * 2)) 189)
        have HB := Lib.hid hB
        have hmk := make_cols n (by omega) w
        have HO := Lib.hid (show (w.alloc (.cells (madeCells #[.int .i64 0, .int .i64 0] (n * 2)) 189)).ownsRow w.heap.size 189 2 (.slice (some ⟨w.heap.size, 0, none⟩) n n) n (rowsC (partC G zs 0)) from by
          have h := World.ownsRow_lit (e := 189) (size := 2) (base := w.heap.size) w (madeCells #[.int .i64 0, .int .i64 0] (n * 2)) n (Nat.le_refl _) (by unfold maxLen; omega) (by simp [madeCells])
          rw [made_cols] at h
          have e : partC G zs 0 = zeroC n := by simp [partC, colsAt, HZL.out]
          rw [e]
          exact h)
        have HSW := Lib.hid (HSH.out _ hB)
        obtain ⟨W1, hW1⟩ : ∃ W1, w.alloc (.cells (madeCells #[.int .i64 0, .int .i64 0] (n * 2)) 189) = W1 := ⟨_, rfl⟩
        rw [hW1] at HB HO HSW
        obtain ⟨g, hg⟩ : ∃ g, w.heap.size = g := ⟨_, rfl⟩
        have HG := Lib.hid hg
        rw [hg] at HO
        have G1 := hGb.1
        have G2 := hGb.2
        have R1 := hRb.1
        have R2 := hRb.2
        have hmono : ∀ e w', MakesZ (widthsM ws R) W1 e w' → ∃ v, e = .returned v ∧ w'.ownsRow W1.heap.size 3 1 v n (numsZ zs) ∧ Below W1.heap.size W1 w' := fun e w' hm => by
          obtain ⟨v, e1, e2, e3⟩ := hm
          rw [hzs, HZL.out] at e2
          exact ⟨v, e1, e2, e3⟩
        have HSM := Lib.hid hmono
        clear h hc1 hw hwt hn8 hnt hb hn hk hRb hGb hB hzs hmono
        by_cases hroom : wide - (n - 1) < n
        · obtain rfl : R = wide := by rw [← hR]; unfold roomOf; rw [if_pos hroom]
          obtain rfl : G = 0 := by rw [← hG]; unfold gapOf; rw [if_pos hroom]
          clear hR hG
          go_enter Tryz.func69, Tryz.ntmps69
          go_wp2_with fail
          refine HW1.out.mono ?_
          rintro e w1 ⟨rfl, rfl⟩
          go_wp2_with fail
          refine HW2.out.mono ?_
          rintro e w1 ⟨rfl, rfl⟩
          go_wp2_with fail
          refine HCO.out.mono ?_
          rintro e w1 ⟨rfl, rfl⟩
          go_wp2_with fail
          refine HSW.out.mono ?_
          intro e w3 hmz
          obtain ⟨v3, rfl, ho3, hb3⟩ := HSM.out e w3 hmz
          obtain ⟨g3, c3, rfl, hB3, hg3, hc3, _, _⟩ := own_at ho3 HZL.out.symm hn1
          have HO3 := Lib.hid ho3
          have HOC := Lib.hid (own_below HO.out hb3)
          have HBB := Lib.hid (show Below g w w3 by have := HB.out.trans (hb3.mono HB.out.size); rw [HG.out] at this; exact this)
          have HGG := Lib.hid (show g < g3 by have := (own_base HO.out (c := g) rfl).2; omega)
          clear hmz ho3 hb3 hmk hB3 hg3 hc3
          go_wp2_with fail
          go_loopw [10, 41] (fun at_ i wr => ∃ k : Nat, i = .int .i64 k ∧ k ≤ n ∧ at_ = .int .i64 (sumZ (zs.take k) + (0 : Int) * k) ∧ Hid (wr.ownsRow g 189 2 (.slice (some ⟨g, 0, none⟩) n n) n (rowsC (partC 0 zs k))) ∧ Hid (Below g w wr) ∧ Hid (wr.ownsRow W1.heap.size 3 1 (.slice (some ⟨g3, 0, none⟩) n c3) n (numsZ zs))) (fun _ i _ => n - (intOf i).toNat)
          case atStart => exact ⟨0, rfl, Nat.zero_le _, by simp [sumZ], HOC, HBB, HO3⟩
          case round =>
            obtain ⟨k, rfl, hkn, rfl, HOk, HBk, HZk⟩ := hrel
            by_cases hlt : k < n
            · have k1 : (k : Int) < n := by omega
              have hkz : k < zs.length := by rw [HZL.out]; exact hlt
              obtain ⟨_, _, e3, _, _, _, _, hcz⟩ := own_at HZk.out HZL.out.symm hn1
              cases e3
              have hcz := hcz k hlt
              have hge : zs.getD k 0 = zs[k] := by simp [List.getD_eq_getElem?_getD, hkz]
              rw [hge] at hcz
              have hsb := sum_take_bd HBD.out k (by omega)
              have hzb := HBD.out _ (List.getElem_mem hkz)
              have hpl := partC_len 0 zs k (by omega)
              obtain ⟨d0, d1, f0, f1⟩ := own_cells HOk.out (by rw [hpl, HZL.out]) hlt
              have HST := Lib.hid (own_setC HOk.out (i := k) (by rw [hpl]; exact hkz) (sumZ (zs.take k) + (0 : Int) * k) zs[k])
              rw [partC_set 0 zs k hkz] at HST
              have HB5 := Lib.hid ((HBk.out.setCell (p := ⟨g, k * 2, none⟩) (Nat.le_refl _) (.int .i64 (sumZ (zs.take k) + (0 : Int) * k))).setCell (p := ⟨g, k * 2 + 1, none⟩) (Nat.le_refl _) (.int .i64 zs[k]))
              have HZ5 := Lib.hid (own_stays (W' := (wr.setCell ⟨g, k * 2, none⟩ (.int .i64 (sumZ (zs.take k) + (0 : Int) * k))).setCell ⟨g, k * 2 + 1, none⟩ (.int .i64 zs[k])) HZk.out fun c hc => by
                have hc' : g3 = c := by simpa [Value.ownBlock] using hc
                have hne : c ≠ g := by have := HGG.out; omega
                exact (Below.heap_setCell _ _ _ _ hne).trans (Below.heap_setCell _ _ _ _ hne))
              have HTS := Lib.hid (show sumZ (zs.take (k + 1)) = sumZ (zs.take k) + zs[k] by rw [List.take_succ_eq_append_getElem hkz, sumZ_app]; simp [sumZ])
              have hgk : (0 : Int) ≤ (0 : Int) * k ∧ (0 : Int) * k ≤ 8 := by omega
              have HGK := Lib.hid (show (0 : Int) * ((k + 1 : Nat) : Int) = (0 : Int) * k + 0 by omega)
              obtain ⟨z, hz⟩ : ∃ z, zs[k] = z := ⟨_, rfl⟩
              rw [hz] at hcz hzb HST HB5 HZ5 HTS
              obtain ⟨A, hA⟩ : ∃ A, sumZ (zs.take k) + (0 : Int) * k = A := ⟨_, rfl⟩
              have HAA := Lib.hid hA
              have hAb : -20000 ≤ A ∧ A ≤ 20000 := by omega
              rw [hA] at HST HB5 HZ5 ⊢
              obtain ⟨u0, hu0⟩ : ∃ u0, ((partC 0 zs k).getD k (0, 0)).1 = u0 := ⟨_, rfl⟩
              obtain ⟨u1, hu1⟩ : ∃ u1, ((partC 0 zs k).getD k (0, 0)).2 = u1 := ⟨_, rfl⟩
              rw [hu0] at d0
              rw [hu1] at d1
              have a1 := hAb.1
              have a2 := hAb.2
              have z1 := hzb.1
              have z2 := hzb.2
              have HLT := Lib.hid hlt
              have HAN := Lib.hid (show A + (z + 0) = sumZ (zs.take (k + 1)) + (0 : Int) * ((k + 1 : Nat) : Int) by rw [HTS.out, HGK.out, ← hA]; omega)
              clear hkz hge hsb hzb hpl hgk hz hA hAb hlt hu0 hu1
              go_wp2_with fail
              go_roundw
              case measure => have := HLT.out; simp [intOf]; omega
              case rel => exact ⟨k + 1, by go_num, HLT.out, by (rw [← HAN.out]) <;> simp, HST, HB5, HZ5⟩
            · obtain rfl : k = n := by omega
              have hzk : ¬ (k : Int) < k := by omega
              have HFI := Lib.hid (show partC 0 zs k = colsAt 0 0 zs by unfold partC; rw [List.take_of_length_le (by rw [HZL.out]; exact Nat.le_refl _), HZL.out, Nat.sub_self]; simp [zeroC])
              clear hlt
              go_wp2_with fail
              go_ret2
              exact ⟨.slice (some ⟨g, 0, none⟩) k k, by rw [HEO.out]; rfl, by
                have h := HOk.out
                rw [HFI.out] at h
                rw [HM.out, HG.out]
                exact RdC.own h (by rw [colsAt_len]; exact HZL.out.symm), by rw [HG.out]; exact HBk.out⟩
        · obtain rfl : R = wide - ((n : Int) - 1) := by rw [← hR]; unfold roomOf; rw [if_neg hroom]
          obtain rfl : G = 1 := by rw [← hG]; unfold gapOf; rw [if_neg hroom]
          clear hR hG
          go_enter Tryz.func69, Tryz.ntmps69
          go_wp2_with fail
          refine HW1.out.mono ?_
          rintro e w1 ⟨rfl, rfl⟩
          go_wp2_with fail
          refine HW2.out.mono ?_
          rintro e w1 ⟨rfl, rfl⟩
          go_wp2_with fail
          refine HCO.out.mono ?_
          rintro e w1 ⟨rfl, rfl⟩
          go_wp2_with fail
          refine HSW.out.mono ?_
          intro e w3 hmz
          obtain ⟨v3, rfl, ho3, hb3⟩ := HSM.out e w3 hmz
          obtain ⟨g3, c3, rfl, hB3, hg3, hc3, _, _⟩ := own_at ho3 HZL.out.symm hn1
          have HO3 := Lib.hid ho3
          have HOC := Lib.hid (own_below HO.out hb3)
          have HBB := Lib.hid (show Below g w w3 by have := HB.out.trans (hb3.mono HB.out.size); rw [HG.out] at this; exact this)
          have HGG := Lib.hid (show g < g3 by have := (own_base HO.out (c := g) rfl).2; omega)
          clear hmz ho3 hb3 hmk hB3 hg3 hc3
          go_wp2_with fail
          go_loopw [10, 41] (fun at_ i wr => ∃ k : Nat, i = .int .i64 k ∧ k ≤ n ∧ at_ = .int .i64 (sumZ (zs.take k) + (1 : Int) * k) ∧ Hid (wr.ownsRow g 189 2 (.slice (some ⟨g, 0, none⟩) n n) n (rowsC (partC 1 zs k))) ∧ Hid (Below g w wr) ∧ Hid (wr.ownsRow W1.heap.size 3 1 (.slice (some ⟨g3, 0, none⟩) n c3) n (numsZ zs))) (fun _ i _ => n - (intOf i).toNat)
          case atStart => exact ⟨0, rfl, Nat.zero_le _, by simp [sumZ], HOC, HBB, HO3⟩
          case round =>
            obtain ⟨k, rfl, hkn, rfl, HOk, HBk, HZk⟩ := hrel
            by_cases hlt : k < n
            · have k1 : (k : Int) < n := by omega
              have hkz : k < zs.length := by rw [HZL.out]; exact hlt
              obtain ⟨_, _, e3, _, _, _, _, hcz⟩ := own_at HZk.out HZL.out.symm hn1
              cases e3
              have hcz := hcz k hlt
              have hge : zs.getD k 0 = zs[k] := by simp [List.getD_eq_getElem?_getD, hkz]
              rw [hge] at hcz
              have hsb := sum_take_bd HBD.out k (by omega)
              have hzb := HBD.out _ (List.getElem_mem hkz)
              have hpl := partC_len 1 zs k (by omega)
              obtain ⟨d0, d1, f0, f1⟩ := own_cells HOk.out (by rw [hpl, HZL.out]) hlt
              have HST := Lib.hid (own_setC HOk.out (i := k) (by rw [hpl]; exact hkz) (sumZ (zs.take k) + (1 : Int) * k) zs[k])
              rw [partC_set 1 zs k hkz] at HST
              have HB5 := Lib.hid ((HBk.out.setCell (p := ⟨g, k * 2, none⟩) (Nat.le_refl _) (.int .i64 (sumZ (zs.take k) + (1 : Int) * k))).setCell (p := ⟨g, k * 2 + 1, none⟩) (Nat.le_refl _) (.int .i64 zs[k]))
              have HZ5 := Lib.hid (own_stays (W' := (wr.setCell ⟨g, k * 2, none⟩ (.int .i64 (sumZ (zs.take k) + (1 : Int) * k))).setCell ⟨g, k * 2 + 1, none⟩ (.int .i64 zs[k])) HZk.out fun c hc => by
                have hc' : g3 = c := by simpa [Value.ownBlock] using hc
                have hne : c ≠ g := by have := HGG.out; omega
                exact (Below.heap_setCell _ _ _ _ hne).trans (Below.heap_setCell _ _ _ _ hne))
              have HTS := Lib.hid (show sumZ (zs.take (k + 1)) = sumZ (zs.take k) + zs[k] by rw [List.take_succ_eq_append_getElem hkz, sumZ_app]; simp [sumZ])
              have hgk : (0 : Int) ≤ (1 : Int) * k ∧ (1 : Int) * k ≤ 8 := by omega
              have HGK := Lib.hid (show (1 : Int) * ((k + 1 : Nat) : Int) = (1 : Int) * k + 1 by omega)
              obtain ⟨z, hz⟩ : ∃ z, zs[k] = z := ⟨_, rfl⟩
              rw [hz] at hcz hzb HST HB5 HZ5 HTS
              obtain ⟨A, hA⟩ : ∃ A, sumZ (zs.take k) + (1 : Int) * k = A := ⟨_, rfl⟩
              have HAA := Lib.hid hA
              have hAb : -20000 ≤ A ∧ A ≤ 20000 := by omega
              rw [hA] at HST HB5 HZ5 ⊢
              obtain ⟨u0, hu0⟩ : ∃ u0, ((partC 1 zs k).getD k (0, 0)).1 = u0 := ⟨_, rfl⟩
              obtain ⟨u1, hu1⟩ : ∃ u1, ((partC 1 zs k).getD k (0, 0)).2 = u1 := ⟨_, rfl⟩
              rw [hu0] at d0
              rw [hu1] at d1
              have a1 := hAb.1
              have a2 := hAb.2
              have z1 := hzb.1
              have z2 := hzb.2
              have HLT := Lib.hid hlt
              have HAN := Lib.hid (show A + (z + 1) = sumZ (zs.take (k + 1)) + (1 : Int) * ((k + 1 : Nat) : Int) by rw [HTS.out, HGK.out, ← hA]; omega)
              clear hkz hge hsb hzb hpl hgk hz hA hAb hlt hu0 hu1
              go_wp2_with fail
              go_roundw
              case measure => have := HLT.out; simp [intOf]; omega
              case rel => exact ⟨k + 1, by go_num, HLT.out, by (rw [← HAN.out]) <;> simp, HST, HB5, HZ5⟩
            · obtain rfl : k = n := by omega
              have hzk : ¬ (k : Int) < k := by omega
              have HFI := Lib.hid (show partC 1 zs k = colsAt 1 0 zs by unfold partC; rw [List.take_of_length_le (by rw [HZL.out]; exact Nat.le_refl _), HZL.out, Nat.sub_self]; simp [zeroC])
              clear hlt
              go_wp2_with fail
              go_ret2
              exact ⟨.slice (some ⟨g, 0, none⟩) k k, by rw [HEO.out]; rfl, by
                have h := HOk.out
                rw [HFI.out] at h
                rw [HM.out, HG.out]
                exact RdC.own h (by rw [colsAt_len]; exact HZL.out.symm), by rw [HG.out]; exact HBk.out⟩
    · have hnt : within ws.length 1 8 = false := decide_eq_false (by omega)
      rw [hnt] at HW2
      have HE := Lib.hid (show colsE ws wide = 1 by unfold colsE; rw [if_pos (by omega)])
      obtain ⟨n, hn⟩ : ∃ n, ws.length = n := ⟨_, rfl⟩
      rw [hn] at HW2
      rw [hn]
      clear h hc1 hw hwt hn8 hnt hn HCO
      go_enter Tryz.func69, Tryz.ntmps69
      go_wp2_with fail
      refine HW1.out.mono ?_
      rintro e w1 ⟨rfl, rfl⟩
      go_wp2_with fail
      refine HW2.out.mono ?_
      rintro e w1 ⟨rfl, rfl⟩
      go_wp2_with fail
      go_ret2
      exact cols_bad HE.out (Below.refl _ _)
  · have hwt : within wide 10 200 = false := decide_eq_false hw
    rw [hwt] at HW1
    have HE := Lib.hid (show colsE ws wide = 1 by unfold colsE; rw [if_pos (by omega)])
    clear h hc1 hw hwt
    go_enter Tryz.func69, Tryz.ntmps69
    go_wp2_with fail
    refine HW1.out.mono ?_
    rintro e w1 ⟨rfl, rfl⟩
    go_wp2_with fail
    go_ret2
    exact cols_bad HE.out (Below.refl _ _)
end Go.Proofs.YtalomeialegmiaaGreatDoor.Tb
end
section
namespace Go.Proofs.YtalomeialegmiaaGreatDoor.Tb
open Go.RowKit Go.Maps
set_option linter.unusedVariables false
set_option linter.unusedSimpArgs false
/-- A new row of one glyph. -/
theorem one_new (w : World) (x : Gl) {P : Nat → Prop} (hp : P w.heap.size) : RdG P (w.alloc (boxG x)) (.slice (some ⟨w.heap.size, 0, none⟩) 1 1) [x] := by
  refine ⟨_, 1, rfl, Nat.le_refl _, by unfold maxLen; omega, fun j hj => ?_⟩
  obtain rfl : j = 0 := by simp at hj; omega
  obtain ⟨d0, d1, d2, d3, d4⟩ := box_cells w x
  exact ⟨_, _, rfl, hp, d0, d1, d2, d3, d4⟩
section
variable {d : Bool} {B g : Nat} {wide u : Int} {K K' : Nat → Prop} {s : Fs} {vo vl vw : Value} {vs : List Value} {W W' : World}
/-- The store of a blank that waits, in a new row. -/
theorem FlAt.waits (h : FlAt d B g wide K s u vo vl vw vs W) (x : Gl) {i : Nat} (hg : ((W.alloc (boxG x)).setCell ⟨g, i, none⟩ (.slice (some ⟨W.heap.size, 0, none⟩) 1 1)).heap[g]? = some (bx d wide vo vl u (.slice (some ⟨W.heap.size, 0, none⟩) 1 1))) :
    FlAt d B g wide K ⟨s.out, s.line, [x]⟩ u vo vl (.slice (some ⟨W.heap.size, 0, none⟩) 1 1) vs ((W.alloc (boxG x)).setCell ⟨g, i, none⟩ (.slice (some ⟨W.heap.size, 0, none⟩) 1 1)) := by
  have h1 := h.below (below_box W (boxG x))
  have n := h.ng
  have hT : Told B g vo vl W.heap.size := ⟨by have := h.base; omega, by omega, fun e => by have := (own_base h.line e).2; omega, fun e => by have := (own_base h.out.row e).2; omega⟩
  refine h1.rebox (by simp [World.setCell]) hg (fun c hc => Below.heap_setCell _ _ _ _ hc) ((one_new W x hT).keep fun a ha _ => World.cell?_of_block (Below.heap_setCell _ _ _ _ ha.2.1))
/-- Nothing waits. -/
theorem FlAt.unwait (h : FlAt d B g wide K s u vo vl vw vs W) {i : Nat} (hg : (W.setCell ⟨g, i, none⟩ (.slice none 0 0)).heap[g]? = some (bx d wide vo vl u (.slice none 0 0))) :
    FlAt d B g wide K ⟨s.out, s.line, []⟩ u vo vl (.slice none 0 0) vs (W.setCell ⟨g, i, none⟩ (.slice none 0 0)) :=
  h.rebox (by simp [World.setCell]) hg (fun c hc => Below.heap_setCell _ _ _ _ hc) (RdG.nil _ 0 (by unfold maxLen; omega) _)
end
set_option maxRecDepth 100000 in
set_option maxHeartbeats 1000000 in
theorem wait_pro {B g : Nat} {wide : Int} {K : Nat → Prop} {s : Fs} (x : Gl) (w : World) (h : Fl true B g wide K s w) (hn62 : s.line.length ≤ 100000) :
    Calls Tryz.prog 178 #[.pointer (some ⟨g, 0, none⟩), glV x] w (FlPost true B g wide K (waitS s x) (.tuple #[]) w) := by
  have hA := below_box w (boxG x)
  obtain ⟨vo, vl, vw, vs, hF⟩ := h
  have hF1 := hF.below hA
  have hKl := fun c hc => (hF.apart c hc).1
  have HK1 := Lib.hid (Kp.of hA hKl)
  obtain ⟨pl, cl, rfl⟩ := lenL hF.line
  obtain ⟨pw, cw, rfl, _⟩ := hF.wait.form
  obtain ⟨b, hb⟩ : ∃ b, w.heap.size = b := ⟨_, rfl⟩
  have hX := heap_alloc_new w (boxG x)
  obtain ⟨W1, hW1⟩ : ∃ W1, w.alloc (boxG x) = W1 := ⟨_, rfl⟩
  rw [hW1] at hF1 HK1 hX
  rw [hb] at hX
  obtain ⟨q0, q1, q2, q3, q4⟩ := bx_cellsP hF1.blk
  unfold boxG at hX
  obtain ⟨d0, d1, d2, d3, d4⟩ : W1.cell? ⟨b, 0, none⟩ = some (.string x.t) ∧ W1.cell? ⟨b, 1, none⟩ = some (.int .i64 x.wd) ∧ W1.cell? ⟨b, 2, none⟩ = some (.int .i64 x.at_) ∧ W1.cell? ⟨b, 3, none⟩ = some (.int .i64 x.co) ∧ W1.cell? ⟨b, 4, none⟩ = some (.int .i64 x.lk) := by
    refine ⟨?_, ?_, ?_, ?_, ?_⟩ <;> rw [cell_of_row _ _ _ _ _ _ hX] <;> rfl
  have HF1 := Lib.hid hF1
  have HKL := Lib.hid (fun c (hc : K c) => (hF1.apart c hc).1)
  have HNW := Lib.hid hF1.notKg
  obtain ⟨n, hn⟩ : ∃ n, s.line.length = n := ⟨_, rfl⟩
  obtain ⟨m, hm⟩ : ∃ m, s.wait.length = m := ⟨_, rfl⟩
  rw [hn] at hn62 q2
  rw [hm] at q4
  have HBL := Lib.hid (blank_pro x W1)
  unfold boxG at hW1
  unfold glV
  by_cases h0 : s.line = []
  · have h1 : n = 0 := by rw [← hn, h0]; rfl
    subst h1
    have HU := Lib.hid (show waitS s x = s by unfold waitS; rw [if_neg (fun h => h.1 h0)])
    clear hF hn hm h0 hA hKl hX hF1 hb
    go_enter Tryz.func178, Tryz.ntmps178
    go_wp2_with fail
    go_end0
    exact ⟨rfl, by rw [HU.out]; exact ⟨_, _, _, _, HF1.out⟩, HK1.out⟩
  · have h1 : 0 < n := by rw [← hn]; exact List.length_pos_iff.2 h0
    have h2 : (0 : Int) < n := by omega
    by_cases h3 : s.wait = []
    · have h4 : m = 0 := by rw [← hm, h3]; rfl
      subst h4
      have HU := Lib.hid (show waitS s x = ⟨s.out, s.line, [blank x]⟩ by unfold waitS; rw [if_pos ⟨h0, h3⟩])
      clear hF hn hm h0 h3 hA hKl hX hF1
      go_enter Tryz.func178, Tryz.ntmps178
      go_wp2_with fail
      try simp only [hb]
      go_wp2_with fail
      unfold glV at HBL
      refine HBL.out.mono ?_
      rintro e w2 ⟨rfl, hb2⟩
      have hF2 := HF1.out.below hb2
      have HK2 := Lib.hid (HK1.out.trans (Kp.of hb2 HKL.out))
      have hB3 := below_box w2 (boxG (blank x))
      have hF3 := hF2.below hB3
      have f4 := bx_frozen hF3.blk 4
      obtain ⟨r0, r1, r2, r3, r4⟩ := bx_cellsP hF3.blk
      have hg4 : ((w2.alloc (boxG (blank x))).setCell ⟨g, 4, none⟩ (.slice (some ⟨w2.heap.size, 0, none⟩) 1 1)).heap[g]? = some (bx true wide vo _ _ (.slice (some ⟨w2.heap.size, 0, none⟩) 1 1)) := heap_setCell_same _ g 4 _ _ _ hF3.blk
      have HF4 := Lib.hid (hF2.waits (blank x) hg4)
      have HK4 := Lib.hid ((HK2.out.trans (Kp.of hB3 (fun c hc => (hF2.apart c hc).1))).set 4 HNW.out (.slice (some ⟨w2.heap.size, 0, none⟩) 1 1))
      unfold boxG at f4 r0 r1 r2 r3 r4 HF4 HK4
      clear hb2 hF2 hB3 hF3 hg4 q0 q1 q2 q3 q4
      unfold glV
      go_wp2_with fail
      go_end0
      exact ⟨rfl, by rw [HU.out]; exact ⟨_, _, _, _, HF4.out⟩, HK4.out⟩
    · have h4 : 0 < m := by rw [← hm]; exact List.length_pos_iff.2 h3
      have h5 : ((m : Int) == 0) = false := by simp; omega
      have HU := Lib.hid (show waitS s x = s by unfold waitS; rw [if_neg (fun h => h3 h.2)])
      clear hF hn hm h0 h3 hA hKl hX hF1 hb
      go_enter Tryz.func178, Tryz.ntmps178
      go_wp2_with fail
      go_end0
      exact ⟨rfl, by rw [HU.out]; exact ⟨_, _, _, _, HF1.out⟩, HK1.out⟩
def intAt (w : World) (a : Addr) : Int := match w.cell? a with | some v => intOf v | none => 0
def repS (s : Fs) (k : Nat) (x : Gl) : Fs := ⟨s.out, s.line ++ List.replicate k x, []⟩
theorem repS_wid (s : Fs) (k : Nat) (x : Gl) : wid (repS s k x).line = wid s.line + k * x.wd := by simp only [repS]; rw [wid_app, wid_rep]
theorem repS_put (s : Fs) (k : Nat) (x : Gl) : putS (repS s k x) x = repS s (k + 1) x := by simp [putS, repS, List.replicate_succ']
set_option maxRecDepth 100000 in
set_option maxHeartbeats 1000000 in
theorem goOn_pro {B g : Nat} {wide : Int} {K : Nat → Prop} {s : Fs} (x : Gl) (stop : Int) (w : World) (h : Fl true B g wide K s w) (hl : s.line.length ≤ 1000) (h0 : 0 ≤ wid s.line) (h1 : wid s.line ≤ stop) (h2 : stop ≤ 1000) :
    Calls Tryz.prog 179 #[.pointer (some ⟨g, 0, none⟩), glV x, .int .i64 stop] w (FlPost true B g wide K (repS s (stop - wid s.line).toNat (blank x)) (.tuple #[]) w) := by
  have hA := below_box w (boxG x)
  obtain ⟨vo, vl, vw, vs, hF⟩ := h
  have hF1 := hF.more (boxG x)
  have hKl := fun c hc => (hF.apart c hc).1
  have HK1 := Lib.hid (Kp.of hA hKl)
  obtain ⟨b, hb⟩ : ∃ b, w.heap.size = b := ⟨_, rfl⟩
  have hX := heap_alloc_new w (boxG x)
  obtain ⟨W1, hW1⟩ : ∃ W1, w.alloc (boxG x) = W1 := ⟨_, rfl⟩
  rw [hW1] at hF1 HK1 hX
  rw [hb] at hX hF1
  obtain ⟨q0, q1, q2, q3, q4⟩ := bx_cellsP hF1.blk
  have f4 := bx_frozen hF1.blk 4
  have hg4 := heap_setCell_same W1 g 4 _ _ (.slice none 0 0) hF1.blk
  have HF4 := Lib.hid (show Fl true B g wide (fun c => K c ∨ c = b) (repS s 0 (blank x)) (W1.setCell ⟨g, 4, none⟩ (.slice none 0 0)) from ⟨_, _, _, _, by
    have := hF1.unwait (i := 4) hg4
    simp only [repS, List.replicate_zero, List.append_nil]
    exact this⟩)
  have hgb : b ≠ g := by have := hF.ng.2.2; omega
  have hX4 : (W1.setCell ⟨g, 4, none⟩ (.slice none 0 0)).heap[b]? = some (boxG x) := (Below.heap_setCell _ _ _ _ hgb).trans hX
  have HK4 := Lib.hid (HK1.out.set 4 hF.notKg (.slice none 0 0))
  obtain ⟨W2, hW2⟩ : ∃ W2, W1.setCell ⟨g, 4, none⟩ (.slice none 0 0) = W2 := ⟨_, rfl⟩
  rw [hW2] at HF4 hX4 HK4
  have HX := Lib.hid hX4
  obtain ⟨u, hu⟩ : ∃ u, wid s.line = u := ⟨_, rfl⟩
  have HU := Lib.hid hu
  rw [hu] at h0 h1 ⊢
  unfold boxG at hW1
  unfold glV
  clear hA hF hF1 hKl hX hg4 hX4 hgb hu
  go_enter Tryz.func179, Tryz.ntmps179
  go_wp2_with fail
  go_loopw [9] (fun _ wr => ∃ k : Nat, u + k ≤ stop ∧ Hid (Fl true B g wide (fun c => K c ∨ c = b) (repS s k (blank x)) wr) ∧ Hid (Kp (fun c => K c ∨ c = b) W2 wr)) (fun _ wr => (stop - intAt wr ⟨g, 3, none⟩).toNat)
  case atStart => exact ⟨0, by omega, HF4, Lib.hid (Kp.refl _ _)⟩
  case round =>
    obtain ⟨k, hk, HF, HK⟩ := hrel
    have hF := HF.out
    obtain ⟨vo', vl', vw', vs', hF⟩ := hF
    obtain ⟨q0, q1, q2, q3, q4⟩ := bx_cellsP hF.blk
    rw [repS_wid, HU.out, show (blank x).wd = 1 from rfl, Int.mul_one] at q3
    have hXr := (HK.out.block b (.inr rfl)).trans HX.out
    unfold boxG at hXr
    obtain ⟨d0, d1, d2, d3, d4⟩ : wr.cell? ⟨b, 0, none⟩ = some (.string x.t) ∧ wr.cell? ⟨b, 1, none⟩ = some (.int .i64 x.wd) ∧ wr.cell? ⟨b, 2, none⟩ = some (.int .i64 x.at_) ∧ wr.cell? ⟨b, 3, none⟩ = some (.int .i64 x.co) ∧ wr.cell? ⟨b, 4, none⟩ = some (.int .i64 x.lk) := by
      refine ⟨?_, ?_, ?_, ?_, ?_⟩ <;> rw [cell_of_row _ _ _ _ _ _ hXr] <;> rfl
    have HM := Lib.hid (show intAt wr ⟨g, 3, none⟩ = u + k by unfold intAt; rw [q3]; rfl)
    by_cases hlt : u + k < stop
    · have HLT := Lib.hid hlt
      have HB := Lib.hid (blank_pro x wr)
      unfold glV at HB
      have HKL := Lib.hid (fun c (hc : K c ∨ c = b) => (hF.apart c hc).1)
      clear hF hXr
      go_wp2_with fail
      refine HB.out.mono ?_
      rintro e w3 ⟨rfl, hb3⟩
      have hl3 : (repS s k (blank x)).line.length ≤ 100000 := by simp [repS]; omega
      have hw3 : wid (repS s k (blank x)).line = u + k := by rw [repS_wid, HU.out, show (blank x).wd = 1 from rfl, Int.mul_one]
      have HP := Lib.hid (put_pro (blank x) w3 (HF.out.below hb3) hl3 (by rw [hw3]; omega) (by rw [hw3]; omega) (by simp [blank]))
      have HK3 := Lib.hid (HK.out.trans (Kp.of hb3 HKL.out))
      clear hb3 hl3 hw3 q0 q1 q2 q3 q4 d0 d1 d2 d3 d4
      go_wp2_with fail
      refine HP.out.mono ?_
      rintro e w4 ⟨rfl, hf4, hk4⟩
      rw [repS_put] at hf4
      have HF4 := Lib.hid hf4
      have HK4 := Lib.hid (HK3.out.trans hk4)
      have HM4 := Lib.hid (show intAt w4 ⟨g, 3, none⟩ = u + (k + 1 : Nat) by
        obtain ⟨_, _, _, _, h5⟩ := hf4
        obtain ⟨_, _, _, q3, _⟩ := bx_cellsP h5.blk
        rw [repS_wid, HU.out, show (blank x).wd = 1 from rfl, Int.mul_one] at q3
        unfold intAt; rw [q3]; rfl)
      clear hf4 hk4
      go_wp2_with fail
      go_roundw
      case measure => have := HLT.out; have := HM.out; have := HM4.out; omega
      case rel => exact ⟨k + 1, by have := HLT.out; omega, HF4, HK4⟩
    · have HE := Lib.hid (show (stop - u).toNat = k by omega)
      clear hF hXr
      go_wp2_with fail
      go_end0
      exact ⟨rfl, by rw [HE.out]; exact HF.out.less fun c hc => .inl hc, HK4.out.trans (HK.out.mono fun c hc => .inl hc)⟩
end Go.Proofs.YtalomeialegmiaaGreatDoor.Tb
end
section
namespace Go.Proofs.YtalomeialegmiaaGreatDoor.Tb
open Go.RowKit Go.Maps
set_option linter.unusedVariables false
set_option linter.unusedSimpArgs false
section
variable {d : Bool} {B g : Nat} {wide u : Int} {K K' : Nat → Prop} {s : Fs} {vo vl vw : Value} {vs : List Value} {W W' : World}
/-- The blocks of what was told are left, too. -/
theorem FlAt.wider (h : FlAt d B g wide K s u vo vl vw vs W) : FlAt d B g wide (fun c => K c ∨ (c < W.heap.size ∧ Told B g vo vl c)) s u vo vl vw vs W :=
  ⟨h.base, h.blk, h.line, h.out, h.wait, fun c hc => by
    rcases hc with hc | hc
    · exact h.apart c hc
    · exact ⟨hc.1, hc.2.2.1, hc.2.2.2.1, hc.2.2.2.2⟩⟩
theorem FlAt.waitK (h : FlAt d B g wide K s u vo vl vw vs W) : RdG (fun c => K c ∨ (c < W.heap.size ∧ Told B g vo vl c)) W vw s.wait := h.wait.imp fun b hb hT => .inr ⟨hb, hT⟩
end
def S3 (g : Nat) (wide u : Int) (vw : Value) (W w : World) : Prop := w.cell? ⟨g, 0, none⟩ = some (.int .i64 wide) ∧ w.cell? ⟨g, 3, none⟩ = some (.int .i64 u) ∧ w.cell? ⟨g, 4, none⟩ = some vw ∧ Below W.heap.size W w
theorem S3.next {g : Nat} {wide u : Int} {vw : Value} {W w w' : World} (h : w.cell? ⟨g, 0, none⟩ = some (.int .i64 wide) ∧ w.cell? ⟨g, 3, none⟩ = some (.int .i64 u) ∧ w.cell? ⟨g, 4, none⟩ = some vw ∧ Below W.heap.size W w) (hb : Below w.heap.size w w') : w'.cell? ⟨g, 0, none⟩ = some (.int .i64 wide) ∧ w'.cell? ⟨g, 3, none⟩ = some (.int .i64 u) ∧ w'.cell? ⟨g, 4, none⟩ = some vw ∧ Below W.heap.size W w' :=
  ⟨(hb.cell (p := ⟨g, 0, none⟩) (cellInL h.1)).trans h.1, (hb.cell (p := ⟨g, 3, none⟩) (cellInL h.2.1)).trans h.2.1, (hb.cell (p := ⟨g, 4, none⟩) (cellInL h.2.2.1)).trans h.2.2.1, h.2.2.2.trans (hb.mono h.2.2.2.size)⟩
theorem small_wait {wide : Int} {s : Fs} (h : Inv wide s) : SmallW s.wait := fun g hg => by rw [h.ww g hg]; omega
theorem small_fit {wide : Int} {l : List Gl} (h : ∀ x ∈ l, (1 ≤ (fitG wide x).wd ∧ (fitG wide x).wd ≤ 2) ∧ (fitG wide x).wd ≤ wide) : SmallW (fitL wide l) := fun g hg => by
  obtain ⟨y, hy, rfl⟩ := List.mem_map.1 hg
  have := h y hy
  omega
/-- A word of which the first j glyphs have been put down. -/
def PwAt (B g : Nat) (wide : Int) (K : Nat → Prop) (l : List Gl) (F : Fs) (w : World) (j : Nat) (s : Fs) (wr : World) : Prop :=
  Fl true B g wide K s wr ∧ Kp K w wr ∧ Inv wide s ∧ (fitL wide (l.drop j)).foldl (signS wide) s = F ∧ (meas s + (l.length - j)) * 24 ≤ 140737488355328
def lenV (v : Value) : Nat := match v with | .slice _ n _ => n | _ => 0
theorem fitL_drop (wide : Int) (l : List Gl) (j : Nat) (h : j < l.length) : fitL wide (l.drop j) = fitG wide l[j] :: fitL wide (l.drop (j + 1)) := by
  unfold fitL
  rw [List.drop_eq_getElem_cons h, List.map_cons]
theorem signS_end {wide : Int} {s : Fs} {x : Gl} (h : wide < wid s.line + x.wd) (hx : x.wd ≤ wide) : signS wide (endS s) x = signS wide s x := by
  unfold signS
  rw [if_pos h, if_neg (by simp [endS, wid]; omega)]
theorem fl_int {B g : Nat} {wide : Int} {K : Nat → Prop} {s : Fs} {w : World} (h : Fl true B g wide K s w) : intAt w ⟨g, 3, none⟩ = wid s.line := by
  obtain ⟨_, _, _, _, h⟩ := h
  obtain ⟨_, _, _, q3, _⟩ := bx_cellsP h.blk
  unfold intAt
  rw [q3]
  rfl
set_option maxRecDepth 100000 in
set_option maxHeartbeats 4000000 in
theorem putWord_pro {P : Nat → Prop} {B g : Nat} {wide : Int} {K : Nat → Prop} {s : Fs} (l : List Gl) (v : Value) (w : World) (h : Fl true B g wide K s w) (hr : RdG P w v l) (hP : ∀ c, P c → K c) (hi : Inv wide s) (hw1 : 1 ≤ wide) (hw2 : wide ≤ 200) (hne : 0 < l.length)
    (hl : (meas s + l.length) * 24 ≤ 140737488355328) (hx : ∀ x ∈ l, (1 ≤ (fitG wide x).wd ∧ (fitG wide x).wd ≤ 2) ∧ (fitG wide x).wd ≤ wide) :
    Calls Tryz.prog 182 #[.pointer (some ⟨g, 0, none⟩), v] w (FlPost true B g wide K (wordS wide s (fitL wide l)) (.tuple #[]) w) := by
  obtain ⟨pa, cap, rfl, hc1, hc2⟩ := sliceG hr
  obtain ⟨vo, vl, vw, vs, hF⟩ := h
  obtain ⟨q0, q1, q2, q3, q4⟩ := bx_cellsP hF.blk
  have hS0 : w.drew.cell? ⟨g, 0, none⟩ = some (.int .i64 wide) ∧ w.drew.cell? ⟨g, 3, none⟩ = some (.int .i64 (wid s.line)) ∧ w.drew.cell? ⟨g, 4, none⟩ = some vw ∧ Below w.heap.size w w.drew := ⟨q0, q3, q4, (Below.refl _ _).drew⟩
  have HS0 := Lib.hid hS0
  have HF := Lib.hid hF
  have HR := Lib.hid hr
  have HI := Lib.hid hi
  have HX := Lib.hid hx
  have HSW := Lib.hid (small_wait hi)
  have HSF := Lib.hid (small_fit hx)
  have HLL := Lib.hid hl
  have HL47 := Lib.hid (show l.length ≤ 140737488355328 by omega)
  have HW47 := Lib.hid (show s.wait.length ≤ 140737488355328 by have := hi.wl; omega)
  have hz := wid_small (small_wait hi)
  have hy := wid_small (small_fit hx)
  have hyl : (fitL wide l).length = l.length := by simp [fitL]
  have hwl := hi.wl
  have hu1 := hi.nn
  have hu2 := hi.le
  obtain ⟨u, hu⟩ : ∃ u, wid s.line = u := ⟨_, rfl⟩
  obtain ⟨z, hzz⟩ : ∃ z, wid s.wait = z := ⟨_, rfl⟩
  obtain ⟨y, hyy⟩ : ∃ y, wid (fitL wide l) = y := ⟨_, rfl⟩
  have HU := Lib.hid hu
  have HZ := Lib.hid hzz
  have HY := Lib.hid hyy
  rw [hu] at q3 HS0 hS0 hu1 hu2
  rw [hzz] at hz
  rw [hyy] at hy
  have z1 : 0 ≤ z := hz.1
  have z2 : z ≤ 200 := by omega
  have y1 : 0 ≤ y := hy.1
  have y2 : y ≤ 200 * 140737488355328 := by omega
  have s1 : IntKind.i64.wrap (u + z) = u + z := IntWalk.i64_in _ (by omega)
  have s2 : IntKind.i64.wrap (u + z + y) = u + z + y := IntWalk.i64_in _ (by omega)
  obtain ⟨s1, hs1⟩ : ∃ s1, roomS wide s (fitL wide l) = s1 := ⟨_, rfl⟩
  have HS1 := Lib.hid hs1
  have hi1 : Inv wide s1 := by rw [← hs1]; exact roomS_inv hi _ (by omega)
  have hr1 : wid s1.line + wid s1.wait ≤ wide := by rw [← hs1]; exact room_fits hi _ (by omega) (by rw [hyy]; exact y1)
  have HI1 := Lib.hid hi1
  have HIL := Lib.hid (laid_inv hi1 hr1)
  have HML := Lib.hid (show meas (laidS s1) = meas s by rw [meas_laid hi1, ← hs1, meas_room])
  have HWS := Lib.hid (show wordS wide s (fitL wide l) = (fitL wide l).foldl (signS wide) (laidS s1) by unfold wordS; rw [hs1])
  have HLO := Lib.hid (show (s.out.length + 1) * 24 ≤ 140737488355328 by have := out_le s; omega)
  obtain ⟨n, hn⟩ : ∃ n, l.length = n := ⟨_, rfl⟩
  have HN := Lib.hid hn
  rw [hn] at HR hc1 ⊢
  have mixed : Tryz.prog.follows .mixedOrders = true := by kernel_rfl
  clear hF hr hi hx hl hz hy hyl hwl hu hzz hyy hn hc1 q0 q1 q2 q3 q4 hs1 hi1 hr1
  by_cases hroom : wide < u + z + y
  · have HRM := Lib.hid (show endU s = s1 by rw [← HS1.out]; unfold roomS; rw [if_pos (by rw [HU.out, HZ.out, HY.out]; exact hroom)])
    clear hS0
    go_enter Tryz.func182, Tryz.ntmps182
    go_wp2_with fail
    go_step3
    go_wp2_with fail
    go_region_held3 (fun w' => w'.cell? ⟨g, 0, none⟩ = some (.int .i64 wide) ∧ w'.cell? ⟨g, 3, none⟩ = some (.int .i64 u) ∧ w'.cell? ⟨g, 4, none⟩ = some vw ∧ Below w.heap.size w w')
      (first | exact HS0.out | exact S3.next (by assumption) h8 | assumption)
      ((first
        | (go_at_call 185; refine (wide_pro s.wait vw _ (HF.out.wait.below ((by assumption : _ ∧ _ ∧ _ ∧ Below w.heap.size w _).2.2.2)) HW47.out HSW.out).mono ?_; rw [HZ.out]; rintro e w8 ⟨rfl, h8⟩)
        | (go_at_call 195; refine (wideOf_pro wide g l _ _ (HR.out.below ((by assumption : _ ∧ _ ∧ _ ∧ Below w.heap.size w _).2.2.2)) HL47.out HSF.out ((by assumption : _ ∧ _ ∧ _ ∧ Below w.heap.size w _).1)).mono ?_; rw [HY.out]; rintro e w9 ⟨rfl, h8⟩)))
    have h9 : Below w.heap.size w w9 := (by assumption : _ ∧ _ ∧ _ ∧ Below w.heap.size w w9).2.2.2
    have HK9 := Lib.hid (Kp.of h9 (fun c hc => (HF.out.apart c hc).1))
    have HF9 := Lib.hid (HF.out.below h9)
    clear h9
    have HE := Lib.hid (endUsed_pro w9 ⟨_, _, _, _, HF9.out⟩ HLO.out (by have := HI.out.len; omega))
    clear HF9
    go_wp2_with fail
    refine HE.out.mono ?_
    rw [HRM.out]
    rintro e W ⟨rfl, hf, hk⟩
    have HFW := Lib.hid hf
    have HKW := Lib.hid (HK9.out.trans hk)
    clear hf hk
    obtain ⟨vo1, vl1, vw1, vs1, hF1⟩ := HFW.out
    obtain ⟨pw, cw, rfl, hwc1, hwc2⟩ := hF1.wait.form
    obtain ⟨q0, q1, q2, q3, q4⟩ := bx_cellsP hF1.blk
    obtain ⟨m, hm⟩ : ∃ m, s1.wait.length = m := ⟨_, rfl⟩
    rw [hm] at q4 hwc1
    have HMW := Lib.hid hm
    have m1 : m ≤ 1 := by rw [← hm]; exact HI1.out.wl
    have m62 : m ≤ 9223372036854775807 := by omega
    obtain ⟨K1, hK1⟩ : ∃ K1 : Nat → Prop, (fun c => K c ∨ (c < W.heap.size ∧ Told B g vo1 vl1 c)) = K1 := ⟨_, rfl⟩
    have HKK := Lib.hid (show ∀ c, K c → K1 c by rw [← hK1]; exact fun c hc => .inl hc)
    have hF1w := hF1.wider
    have hwk := hF1.waitK
    rw [hK1] at hF1w hwk
    rw [hm] at hwk
    have HWK := Lib.hid hwk
    have HFS := Lib.hid (show Fl true B g wide K1 ⟨s1.out, s1.line ++ s1.wait.take 0, s1.wait⟩ W by rw [List.take_zero, List.append_nil]; exact ⟨_, _, _, _, hF1w⟩)
    have HKL1 := Lib.hid (fun c (hc : K1 c) => (hF1w.apart c hc).1)
    clear hF1 hF1w hwk hwc1 hwc2 hm hK1
    go_wp2_with fail
    go_loopw [34] (fun i wr => ∃ k : Nat, i = .int .i64 k ∧ k ≤ m ∧ Hid (Fl true B g wide K1 ⟨s1.out, s1.line ++ s1.wait.take k, s1.wait⟩ wr) ∧ Hid (Kp K1 W wr)) (fun i _ => m - (intOf i).toNat)
    case atStart => exact ⟨0, rfl, Nat.zero_le _, HFS, Lib.hid (Kp.refl _ _)⟩
    case round =>
      obtain ⟨k, rfl, hk, HFr, HKr⟩ := hrel
      by_cases hlt : k < m
      · have hkl : k < s1.wait.length := by rw [HMW.out]; exact hlt
        obtain ⟨b, off, rfl, hb, hc⟩ := (HWK.out.keep (fun a ha _ => World.cell?_of_block (HKr.out.block _ ha))).at_ hkl
        have hx1 := HI1.out.ww _ (List.getElem_mem hkl)
        have hln : (s1.line ++ s1.wait.take k).length ≤ 100000 := by
          rw [List.length_append, List.length_take]
          have := HI1.out.len
          omega
        have hwn : 0 ≤ wid (s1.line ++ s1.wait.take k) ∧ wid (s1.line ++ s1.wait.take k) ≤ 100000 := by
          rw [wid_app]
          have := HI1.out.le
          have := HI1.out.nn
          have := wid_small (l := s1.wait.take k) fun g hg => small_wait HI1.out g (List.mem_of_mem_take hg)
          have : (s1.wait.take k).length ≤ k := List.length_take_le _ _
          omega
        have hT := Lib.hid (show s1.wait.take (k + 1) = s1.wait.take k ++ [s1.wait[k]] from List.take_succ_eq_append_getElem hkl)
        obtain ⟨x, hx⟩ : ∃ x, s1.wait[k] = x := ⟨_, rfl⟩
        rw [hx] at hc hx1 hT
        obtain ⟨c0, c1, c2, c3, c4⟩ := hc
        have HP := Lib.hid (put_pro x _ (HFr.out.below (below_box wr (boxG x))) hln hwn.1 hwn.2 (by omega))
        have HKA := Lib.hid (HKr.out.trans (Kp.of (below_box wr (boxG x)) HFr.out.lt))
        unfold boxG glV at HP
        unfold boxG at HKA
        have k1 : (k : Int) < m := by omega
        have HLT := Lib.hid hlt
        clear hx hlt hln hwn hx1
        go_wp2_with fail
        refine HP.out.mono ?_
        rintro e w3 ⟨rfl, hf, hk3⟩
        have HF3 := Lib.hid (show Fl true B g wide K1 ⟨s1.out, s1.line ++ s1.wait.take (k + 1), s1.wait⟩ w3 by
          rw [hT.out, ← List.append_assoc]; exact hf)
        have HK3 := Lib.hid (HKA.out.trans hk3)
        clear hf hk3
        go_wp2_with fail
        go_roundw
        case measure => have := HLT.out; simp [intOf]; omega
        case rel => exact ⟨k + 1, by go_num, HLT.out, HF3, HK3⟩
      · obtain rfl : k = m := by omega
        have hz1 : ¬ (k : Int) < k := by omega
        have hF := HFr.out
        obtain ⟨vo2, vl2, vw2, vs2, hF⟩ := hF
        rw [show s1.wait.take k = s1.wait by rw [← HMW.out, List.take_length]] at hF
        have f4 := bx_frozen hF.blk 4
        obtain ⟨q0, q1, q2, q3, q4⟩ := bx_cellsP hF.blk
        have hg4 := heap_setCell_same wr g 4 _ _ (.slice none 0 0) hF.blk
        have hFu := hF.unwait (i := 4) hg4
        have HFL := Lib.hid (show Fl true B g wide K (laidS s1) (wr.setCell ⟨g, 4, none⟩ (.slice none 0 0)) from ⟨_, _, _, _, hFu.less HKK.out⟩)
        have HKL := Lib.hid (HKW.out.trans ((HKr.out.mono HKK.out).set 4 (fun h => hF.notKg (HKK.out g h)) (.slice none 0 0)))
        obtain ⟨W5, hW5⟩ : ∃ W5, wr.setCell ⟨g, 4, none⟩ (.slice none 0 0) = W5 := ⟨_, rfl⟩
        rw [hW5] at HFL HKL
        obtain ⟨F, hFF⟩ : ∃ F, wordS wide s (fitL wide l) = F := ⟨_, rfl⟩
        have HPW := Lib.hid (show PwAt B g wide K l F w 0 (laidS s1) W5 from ⟨HFL.out, HKL.out, HIL.out, by rw [List.drop_zero, ← HWS.out, hFF], by rw [HML.out]; exact HLL.out⟩)
        have HRP := Lib.hid (show RdG P W5 (.slice pa n cap) (l.drop 0) from HR.out.keep fun a ha _ => World.cell?_of_block (HKL.out.block _ (hP _ ha)))
        have HFF := Lib.hid hFF
        clear hF hg4 hFu hlt HFL hFF
        go_wp2_with fail
        go_step3
        go_wp2_with fail
        go_loopw [1] (fun v wr => ∃ (j n' cap' : Nat) (p' : Option Addr) (s2 : Fs), v = .slice p' n' cap' ∧ n' + j = n ∧ n' ≤ cap' ∧ Hid (RdG P wr (.slice p' n' cap') (l.drop j)) ∧ Hid (PwAt B g wide K l F w j s2 wr)) (fun v wr => 2 * lenV v + (if intAt wr ⟨g, 3, none⟩ = 0 then 0 else 1))
        case atStart => exact ⟨0, n, cap, pa, _, rfl, rfl, (by have h := HRP.out.form; obtain ⟨_, _, e, h1, _⟩ := h; cases e; rw [List.drop_zero, HN.out] at h1; exact h1), HRP, HPW⟩
        case round =>
          obtain ⟨wo, rfl⟩ : ∃ wo : World, wo = wr := ⟨_, rfl⟩
          obtain ⟨j, n', cap', p', s2, rfl, hj, hc', HR2, HP2⟩ := hrel
          have HJ := Lib.hid hj
          have n62 : n' ≤ 9223372036854775807 := by have := HL47.out; have := HN.out; omega
          have hdl : (l.drop j).length = n' := by rw [List.length_drop]; have := HN.out; omega
          have HDL := Lib.hid hdl
          have HMO := Lib.hid (fl_int HP2.out.1)
          clear hj hdl
          go_wp2_with fail
          go_loopw [1, 47] (fun v i wi => ∃ (k : Nat) (s3 : Fs), v = .slice p' n' cap' ∧ i = .int .i64 k ∧ k ≤ n' ∧ Hid (PwAt B g wide K l F w (j + k) s3 wi) ∧ Hid (k = 0 → s3 = s2)) (fun _ i _ => n' - (intOf i).toNat)
          case atStart => exact ⟨0, s2, rfl, rfl, Nat.zero_le _, HP2, Lib.hid (fun _ => rfl)⟩
          case round =>
            obtain ⟨k, s3, rfl, rfl, hk, HP3, HK0⟩ := hrel
            by_cases hlt : k < n'
            · have hkl : k < (l.drop j).length := by rw [HDL.out]; exact hlt
              have hjl : j + k < l.length := by rw [List.length_drop] at hkl; omega
              have hrw : RdG P wr (.slice p' n' cap') (l.drop j) := by
                have h1 : RdG P w (.slice pa n cap) l := HR.out
                exact HR2.out.keep fun a ha _ => World.cell?_of_block (by rw [HP3.out.2.1.block _ (hP _ ha), HP2.out.2.1.block _ (hP _ ha)])
              obtain ⟨b, off, rfl, hb, hc⟩ := hrw.at_ hkl
              have hx := HX.out _ (List.getElem_mem hjl)
              have hD := fitL_drop wide l (j + k) hjl
              have ex : (l.drop j)[k] = l[j + k] := List.getElem_drop
              obtain ⟨x, hxx⟩ : ∃ x, l[j + k] = x := ⟨_, rfl⟩
              rw [ex, hxx] at hc
              rw [hxx] at hx hD
              obtain ⟨c0, c1, c2, c3, c4⟩ := hc
              have HRW := Lib.hid hrw
              have HXX := Lib.hid hx
              have HD := Lib.hid hD
              have k1 : (k : Int) < n' := by omega
              have HLT := Lib.hid hlt
              obtain ⟨hf3, hk3, hi3, hfo, hms⟩ := HP3.out
              obtain ⟨_, _, _, _, hfa⟩ := id hf3
              have HFT := Lib.hid (fitting_pro wide g x (wr.alloc (boxG x)) (bx_cellsP (hfa.below (below_box wr (boxG x))).blk).1)
              have HFM := Lib.hid (hf3.more (boxG x))
              have HKM := Lib.hid (hk3.trans (Kp.of (below_box wr (boxG x)) hf3.lt))
              have HXN := Lib.hid (heap_alloc_new wr (boxG x))
              obtain ⟨bb, hbb⟩ : ∃ bb, wr.heap.size = bb := ⟨_, rfl⟩
              rw [hbb] at HXN
              unfold boxG glV at HFT
              unfold boxG at HFM HKM HXN
              clear hrw hx hD ex hxx hlt hf3 hk3 hi3 hfo hms hfa
              go_wp2_with fail
              refine HFT.out.mono ?_
              unfold MakesG
              obtain ⟨y, hy⟩ : ∃ y, fitG wide x = y := ⟨_, rfl⟩
              rw [hy]
              rintro e w2 ⟨rfl, hb2⟩
              have HBB := Lib.hid hbb
              have hx2 := (hb2.block bb (by rw [← hbb]; simp)).trans HXN.out
              have z0 := heap_setCell_same w2 bb 0 _ _ (.string y.t) hx2
              have z1 := heap_setCell_same _ bb 1 _ _ (.int .i64 y.wd) z0
              have z2 := heap_setCell_same _ bb 2 _ _ (.int .i64 y.at_) z1
              have z3 := heap_setCell_same _ bb 3 _ _ (.int .i64 y.co) z2
              have z4 := heap_setCell_same _ bb 4 _ _ (.int .i64 y.lk) z3
              have hB5 : Below wr.heap.size wr (((((w2.setCell ⟨bb, 0, none⟩ (.string y.t)).setCell ⟨bb, 1, none⟩ (.int .i64 y.wd)).setCell ⟨bb, 2, none⟩ (.int .i64 y.at_)).setCell ⟨bb, 3, none⟩ (.int .i64 y.co)).setCell ⟨bb, 4, none⟩ (.int .i64 y.lk)) := by
                have h0 := (below_box wr (.cells #[.string x.t, .int .i64 x.wd, .int .i64 x.at_, .int .i64 x.co, .int .i64 x.lk] 59)).trans (hb2.mono (by simp))
                exact ((((h0.setCell (by simp [hbb]) _).setCell (by simp [hbb]) _).setCell (by simp [hbb]) _).setCell (by simp [hbb]) _).setCell (by simp [hbb]) _
              have p0 : w2.cell? ⟨bb, 0, none⟩ = some (.string x.t) := by rw [cell_of_row _ _ _ _ _ _ hx2]; rfl
              have p1 : w2.cell? ⟨bb, 1, none⟩ = some (.int .i64 x.wd) := by rw [cell_of_row _ _ _ _ _ _ hx2]; rfl
              have p2 : w2.cell? ⟨bb, 2, none⟩ = some (.int .i64 x.at_) := by rw [cell_of_row _ _ _ _ _ _ hx2]; rfl
              have p3 : w2.cell? ⟨bb, 3, none⟩ = some (.int .i64 x.co) := by rw [cell_of_row _ _ _ _ _ _ hx2]; rfl
              have p4 : w2.cell? ⟨bb, 4, none⟩ = some (.int .i64 x.lk) := by rw [cell_of_row _ _ _ _ _ _ hx2]; rfl
              have f0 := frozen_of_row w2 bb 0 _ _ hx2
              have f1 := frozen_of_row w2 bb 1 _ _ hx2
              have f2 := frozen_of_row w2 bb 2 _ _ hx2
              have f3 := frozen_of_row w2 bb 3 _ _ hx2
              have f4 := frozen_of_row w2 bb 4 _ _ hx2
              obtain ⟨W5, hW5⟩ : ∃ W5, (((((w2.setCell ⟨bb, 0, none⟩ (.string y.t)).setCell ⟨bb, 1, none⟩ (.int .i64 y.wd)).setCell ⟨bb, 2, none⟩ (.int .i64 y.at_)).setCell ⟨bb, 3, none⟩ (.int .i64 y.co)).setCell ⟨bb, 4, none⟩ (.int .i64 y.lk)) = W5 := ⟨_, rfl⟩
              rw [hW5] at z4 hB5
              obtain ⟨r0, r1, r2, r3, r4⟩ : W5.cell? ⟨bb, 0, none⟩ = some (.string y.t) ∧ W5.cell? ⟨bb, 1, none⟩ = some (.int .i64 y.wd) ∧ W5.cell? ⟨bb, 2, none⟩ = some (.int .i64 y.at_) ∧ W5.cell? ⟨bb, 3, none⟩ = some (.int .i64 y.co) ∧ W5.cell? ⟨bb, 4, none⟩ = some (.int .i64 y.lk) := by
                refine ⟨?_, ?_, ?_, ?_, ?_⟩ <;> rw [cell_of_row _ _ _ _ _ _ z4] <;> rfl
              rw [hy] at HXX
              have hyb := HXX.out
              rw [hy] at HD
              obtain ⟨hf3, hk3, hi3, hfo, hms⟩ := HP3.out
              rw [HD.out] at hfo
              obtain ⟨_, _, _, _, hfa⟩ := id (hf3.below hB5)
              obtain ⟨q0, q1, q2, q3, q4⟩ := bx_cellsP hfa.blk
              have hn1 := hi3.nn
              have hn2 := hi3.le
              have HF5 := Lib.hid (hf3.below hB5)
              have HK5 := Lib.hid (hk3.trans (Kp.of hB5 hf3.lt))
              have HI3 := Lib.hid hi3
              have HFO := Lib.hid hfo
              have HMS := Lib.hid hms
              obtain ⟨t, ht⟩ : ∃ t, wid s3.line = t := ⟨_, rfl⟩
              have HT := Lib.hid ht
              rw [ht] at q3 hn1 hn2
              have y1 := hyb.1.1
              have y2 := hyb.1.2
              have y3 := hyb.2
              have y0 : 0 ≤ y.wd := by omega
              have sw : IntKind.i64.wrap (t + y.wd) = t + y.wd := IntWalk.i64_in _ (by omega)
              have HJL := Lib.hid hjl
              clear hx2 z0 z1 z2 z3 z4 hb2 hB5 hf3 hk3 hi3 hfo hms hfa ht hy hyb hbb hjl hkl c0 c1 c2 c3 c4
              unfold glV
              by_cases hov : wide < t + y.wd
              · have hovd : decide (wide < t + y.wd) = true := decide_eq_true hov
                go_wp2_with fail
                try simp only [hW5]
                go_quiet (fail)
                have HMX := Lib.hid (show meas s3 = s3.out.length + 1 by
                  have : s3.line ≠ [] := fun e => by have := HT.out; rw [e] at this; simp only [wid] at this; omega
                  unfold meas; rw [if_neg this])
                have HE := Lib.hid (end_pro (W5.drewN nq) (HF5.out.below (dn_below (Below.refl _ _) nq)) (by have := HMS.out; have := out_le s3; have := HJL.out; omega))
                have hcne : cap' ≠ k := by omega
                have hkc : k ≤ cap' := by omega
                have hkn : k ≤ n' := by omega
                have hkci : (k : Int) ≤ cap' := by omega
                have hkni : (k : Int) ≤ n' := by omega
                clear p0 p1 p2 p3 p4 f0 f1 f2 f3 f4 r0 r1 r2 r3 r4 q0 q1 q2 q3 q4 sw
                have HOV := Lib.hid hov
                clear hov hovd
                go_wp2_with fail
                refine HE.out.mono ?_
                rintro e w6 ⟨rfl, hf6, hk6⟩
                have HK6 := Lib.hid ((HK5.out.trans (Kp.of (dn_below (Below.refl _ _) nq) HF5.out.lt)).trans hk6)
                have HF6 := Lib.hid hf6
                clear hf6 hk6
                go_wp2_with fail
                go_roundw
                case measure =>
                  have h1 := fl_int HF6.out
                  have h2 := HMO.out
                  have h3 := HT.out
                  have h4 := HOV.out
                  have h5 := HK0.out
                  simp only [lenV]
                  rw [h1, h2]
                  simp only [endS, wid, if_true]
                  rcases Nat.eq_zero_or_pos k with h0 | h0
                  · rw [← h5 h0, h3, if_neg (by omega)]
                    omega
                  · split <;> omega
                case rel =>
                  refine ⟨j + k, n' - k, cap' - k, some ⟨b, off + k * 5, none⟩, endS s3, rfl, by have := HJ.out; omega, by omega, Lib.hid ?_, Lib.hid ⟨HF6.out, HK6.out, HI3.out.ended (by omega), ?_, ?_⟩⟩
                  · have h1 := HR2.out.drop k hkn
                    rw [List.drop_drop] at h1
                    exact h1.keep fun a ha _ => World.cell?_of_block (by rw [HK6.out.block _ (hP _ ha), HP2.out.2.1.block _ (hP _ ha)])
                  · rw [HD.out, List.foldl_cons, signS_end (by rw [HT.out]; exact HOV.out) y3]
                    exact HFO.out
                  · have := HMS.out
                    have := HMX.out
                    rw [meas_end]
                    omega
              · have hovd : decide (wide < t + y.wd) = false := decide_eq_false hov
                go_wp2_with fail
                try simp only [hW5]
                go_quiet (fail)
                have HE := Lib.hid (put_pro y (W5.drewN nq) (HF5.out.below (dn_below (Below.refl _ _) nq)) (by have := HI3.out.len; omega) (by rw [HT.out]; omega) (by rw [HT.out]; omega) (by omega))
                unfold glV at HE
                have HOV := Lib.hid hov
                clear hov hovd
                go_wp2_with fail
                refine HE.out.mono ?_
                rintro e w6 ⟨rfl, hf6, hk6⟩
                have HK6 := Lib.hid ((HK5.out.trans (Kp.of (dn_below (Below.refl _ _) nq) HF5.out.lt)).trans hk6)
                have HF6 := Lib.hid hf6
                clear hf6 hk6
                go_wp2_with fail
                go_roundw
                case measure => have := HLT.out; simp [intOf]; omega
                case rel =>
                  have hsg : signS wide s3 y = putS s3 y := by unfold signS; rw [if_neg (by rw [HT.out]; have := HOV.out; omega)]
                  refine ⟨k + 1, putS s3 y, rfl, by go_num, HLT.out, Lib.hid ⟨HF6.out, HK6.out, HI3.out.put ⟨y1, y2⟩ (by rw [HT.out]; have := HOV.out; omega), ?_, ?_⟩, Lib.hid (fun h => absurd h (by omega))⟩
                  · have h := HFO.out
                    rw [List.foldl_cons, hsg] at h
                    exact h
                  · have := HMS.out
                    have := out_le s3
                    have := HJL.out
                    rw [meas_put]
                    omega
            · obtain rfl : k = n' := by omega
              have hz1 : ¬ (k : Int) < k := by omega
              have hPE := HP3.out
              have hEnd : F = s3 := by
                have h := hPE.2.2.2.1
                rw [show l.drop (j + k) = [] from List.drop_eq_nil_of_le (by have := HJ.out; have := HN.out; omega)] at h
                exact h.symm
              have HEnd := Lib.hid hEnd
              clear hlt hEnd hPE
              go_wp2_with fail
              try rw [Exit.noGoto_ret]
              go_end0
              exact ⟨rfl, by rw [HFF.out, HEnd.out]; exact HP3.out.1, HP3.out.2.1⟩
  · have HRM := Lib.hid (show s = s1 by rw [← HS1.out]; unfold roomS; rw [if_neg (by rw [HU.out, HZ.out, HY.out]; exact hroom)])
    have hroomd : decide (wide < u + z + y) = false := decide_eq_false hroom
    clear hS0
    go_enter Tryz.func182, Tryz.ntmps182
    go_wp2_with fail
    go_step3
    go_wp2_with fail
    go_region_held3 (fun w' => w'.cell? ⟨g, 0, none⟩ = some (.int .i64 wide) ∧ w'.cell? ⟨g, 3, none⟩ = some (.int .i64 u) ∧ w'.cell? ⟨g, 4, none⟩ = some vw ∧ Below w.heap.size w w')
      (first | exact HS0.out | exact S3.next (by assumption) h8 | assumption)
      ((first
        | (go_at_call 185; refine (wide_pro s.wait vw _ (HF.out.wait.below ((by assumption : _ ∧ _ ∧ _ ∧ Below w.heap.size w _).2.2.2)) HW47.out HSW.out).mono ?_; rw [HZ.out]; rintro e w8 ⟨rfl, h8⟩)
        | (go_at_call 195; refine (wideOf_pro wide g l _ _ (HR.out.below ((by assumption : _ ∧ _ ∧ _ ∧ Below w.heap.size w _).2.2.2)) HL47.out HSF.out ((by assumption : _ ∧ _ ∧ _ ∧ Below w.heap.size w _).1)).mono ?_; rw [HY.out]; rintro e w9 ⟨rfl, h8⟩)))
    have h9 : Below w.heap.size w w9 := (by assumption : _ ∧ _ ∧ _ ∧ Below w.heap.size w w9).2.2.2
    have HK9 := Lib.hid (Kp.of h9 (fun c hc => (HF.out.apart c hc).1))
    have HF9 := Lib.hid (HF.out.below h9)
    clear h9
    have HFW := Lib.hid (show Fl true B g wide K s1 w9 by have h := HF9.out; rw [HRM.out] at h; exact ⟨_, _, _, _, h⟩)
    have HKW := HK9
    obtain ⟨W, hW⟩ : ∃ W : World, w9 = W := ⟨_, rfl⟩
    rw [hW] at HFW HKW ⊢
    have HWW := Lib.hid hW
    clear HF9 hW HK9
    obtain ⟨vo1, vl1, vw1, vs1, hF1⟩ := HFW.out
    obtain ⟨pw, cw, rfl, hwc1, hwc2⟩ := hF1.wait.form
    obtain ⟨q0, q1, q2, q3, q4⟩ := bx_cellsP hF1.blk
    obtain ⟨m, hm⟩ : ∃ m, s1.wait.length = m := ⟨_, rfl⟩
    rw [hm] at q4 hwc1
    have HMW := Lib.hid hm
    have m1 : m ≤ 1 := by rw [← hm]; exact HI1.out.wl
    have m62 : m ≤ 9223372036854775807 := by omega
    obtain ⟨K1, hK1⟩ : ∃ K1 : Nat → Prop, (fun c => K c ∨ (c < W.heap.size ∧ Told B g vo1 vl1 c)) = K1 := ⟨_, rfl⟩
    have HKK := Lib.hid (show ∀ c, K c → K1 c by rw [← hK1]; exact fun c hc => .inl hc)
    have hF1w := hF1.wider
    have hwk := hF1.waitK
    rw [hK1] at hF1w hwk
    rw [hm] at hwk
    have HWK := Lib.hid hwk
    have HFS := Lib.hid (show Fl true B g wide K1 ⟨s1.out, s1.line ++ s1.wait.take 0, s1.wait⟩ W by rw [List.take_zero, List.append_nil]; exact ⟨_, _, _, _, hF1w⟩)
    have HKL1 := Lib.hid (fun c (hc : K1 c) => (hF1w.apart c hc).1)
    clear hF1 hF1w hwk hwc1 hwc2 hm hK1
    go_wp2_with fail
    go_loopw [34] (fun i wr => ∃ k : Nat, i = .int .i64 k ∧ k ≤ m ∧ Hid (Fl true B g wide K1 ⟨s1.out, s1.line ++ s1.wait.take k, s1.wait⟩ wr) ∧ Hid (Kp K1 W wr)) (fun i _ => m - (intOf i).toNat)
    case atStart => exact ⟨0, rfl, Nat.zero_le _, HFS, Lib.hid (Kp.refl _ _)⟩
    case round =>
      obtain ⟨k, rfl, hk, HFr, HKr⟩ := hrel
      by_cases hlt : k < m
      · have hkl : k < s1.wait.length := by rw [HMW.out]; exact hlt
        obtain ⟨b, off, rfl, hb, hc⟩ := (HWK.out.keep (fun a ha _ => World.cell?_of_block (HKr.out.block _ ha))).at_ hkl
        have hx1 := HI1.out.ww _ (List.getElem_mem hkl)
        have hln : (s1.line ++ s1.wait.take k).length ≤ 100000 := by
          rw [List.length_append, List.length_take]
          have := HI1.out.len
          omega
        have hwn : 0 ≤ wid (s1.line ++ s1.wait.take k) ∧ wid (s1.line ++ s1.wait.take k) ≤ 100000 := by
          rw [wid_app]
          have := HI1.out.le
          have := HI1.out.nn
          have := wid_small (l := s1.wait.take k) fun g hg => small_wait HI1.out g (List.mem_of_mem_take hg)
          have : (s1.wait.take k).length ≤ k := List.length_take_le _ _
          omega
        have hT := Lib.hid (show s1.wait.take (k + 1) = s1.wait.take k ++ [s1.wait[k]] from List.take_succ_eq_append_getElem hkl)
        obtain ⟨x, hx⟩ : ∃ x, s1.wait[k] = x := ⟨_, rfl⟩
        rw [hx] at hc hx1 hT
        obtain ⟨c0, c1, c2, c3, c4⟩ := hc
        have HP := Lib.hid (put_pro x _ (HFr.out.below (below_box wr (boxG x))) hln hwn.1 hwn.2 (by omega))
        have HKA := Lib.hid (HKr.out.trans (Kp.of (below_box wr (boxG x)) HFr.out.lt))
        unfold boxG glV at HP
        unfold boxG at HKA
        have k1 : (k : Int) < m := by omega
        have HLT := Lib.hid hlt
        clear hx hlt hln hwn hx1
        go_wp2_with fail
        refine HP.out.mono ?_
        rintro e w3 ⟨rfl, hf, hk3⟩
        have HF3 := Lib.hid (show Fl true B g wide K1 ⟨s1.out, s1.line ++ s1.wait.take (k + 1), s1.wait⟩ w3 by
          rw [hT.out, ← List.append_assoc]; exact hf)
        have HK3 := Lib.hid (HKA.out.trans hk3)
        clear hf hk3
        go_wp2_with fail
        go_roundw
        case measure => have := HLT.out; simp [intOf]; omega
        case rel => exact ⟨k + 1, by go_num, HLT.out, HF3, HK3⟩
      · obtain rfl : k = m := by omega
        have hz1 : ¬ (k : Int) < k := by omega
        have hF := HFr.out
        obtain ⟨vo2, vl2, vw2, vs2, hF⟩ := hF
        rw [show s1.wait.take k = s1.wait by rw [← HMW.out, List.take_length]] at hF
        have f4 := bx_frozen hF.blk 4
        obtain ⟨q0, q1, q2, q3, q4⟩ := bx_cellsP hF.blk
        have hg4 := heap_setCell_same wr g 4 _ _ (.slice none 0 0) hF.blk
        have hFu := hF.unwait (i := 4) hg4
        have HFL := Lib.hid (show Fl true B g wide K (laidS s1) (wr.setCell ⟨g, 4, none⟩ (.slice none 0 0)) from ⟨_, _, _, _, hFu.less HKK.out⟩)
        have HKL := Lib.hid (HKW.out.trans ((HKr.out.mono HKK.out).set 4 (fun h => hF.notKg (HKK.out g h)) (.slice none 0 0)))
        obtain ⟨W5, hW5⟩ : ∃ W5, wr.setCell ⟨g, 4, none⟩ (.slice none 0 0) = W5 := ⟨_, rfl⟩
        rw [hW5] at HFL HKL
        obtain ⟨F, hFF⟩ : ∃ F, wordS wide s (fitL wide l) = F := ⟨_, rfl⟩
        have HPW := Lib.hid (show PwAt B g wide K l F w 0 (laidS s1) W5 from ⟨HFL.out, HKL.out, HIL.out, by rw [List.drop_zero, ← HWS.out, hFF], by rw [HML.out]; exact HLL.out⟩)
        have HRP := Lib.hid (show RdG P W5 (.slice pa n cap) (l.drop 0) from HR.out.keep fun a ha _ => World.cell?_of_block (HKL.out.block _ (hP _ ha)))
        have HFF := Lib.hid hFF
        clear hF hg4 hFu hlt HFL hFF
        go_wp2_with fail
        go_step3
        go_wp2_with fail
        go_loopw [1] (fun v wr => ∃ (j n' cap' : Nat) (p' : Option Addr) (s2 : Fs), v = .slice p' n' cap' ∧ n' + j = n ∧ n' ≤ cap' ∧ Hid (RdG P wr (.slice p' n' cap') (l.drop j)) ∧ Hid (PwAt B g wide K l F w j s2 wr)) (fun v wr => 2 * lenV v + (if intAt wr ⟨g, 3, none⟩ = 0 then 0 else 1))
        case atStart => exact ⟨0, n, cap, pa, _, rfl, rfl, (by have h := HRP.out.form; obtain ⟨_, _, e, h1, _⟩ := h; cases e; rw [List.drop_zero, HN.out] at h1; exact h1), HRP, HPW⟩
        case round =>
          obtain ⟨wo, rfl⟩ : ∃ wo : World, wo = wr := ⟨_, rfl⟩
          obtain ⟨j, n', cap', p', s2, rfl, hj, hc', HR2, HP2⟩ := hrel
          have HJ := Lib.hid hj
          have n62 : n' ≤ 9223372036854775807 := by have := HL47.out; have := HN.out; omega
          have hdl : (l.drop j).length = n' := by rw [List.length_drop]; have := HN.out; omega
          have HDL := Lib.hid hdl
          have HMO := Lib.hid (fl_int HP2.out.1)
          clear hj hdl
          go_wp2_with fail
          go_loopw [1, 47] (fun v i wi => ∃ (k : Nat) (s3 : Fs), v = .slice p' n' cap' ∧ i = .int .i64 k ∧ k ≤ n' ∧ Hid (PwAt B g wide K l F w (j + k) s3 wi) ∧ Hid (k = 0 → s3 = s2)) (fun _ i _ => n' - (intOf i).toNat)
          case atStart => exact ⟨0, s2, rfl, rfl, Nat.zero_le _, HP2, Lib.hid (fun _ => rfl)⟩
          case round =>
            obtain ⟨k, s3, rfl, rfl, hk, HP3, HK0⟩ := hrel
            by_cases hlt : k < n'
            · have hkl : k < (l.drop j).length := by rw [HDL.out]; exact hlt
              have hjl : j + k < l.length := by rw [List.length_drop] at hkl; omega
              have hrw : RdG P wr (.slice p' n' cap') (l.drop j) := by
                have h1 : RdG P w (.slice pa n cap) l := HR.out
                exact HR2.out.keep fun a ha _ => World.cell?_of_block (by rw [HP3.out.2.1.block _ (hP _ ha), HP2.out.2.1.block _ (hP _ ha)])
              obtain ⟨b, off, rfl, hb, hc⟩ := hrw.at_ hkl
              have hx := HX.out _ (List.getElem_mem hjl)
              have hD := fitL_drop wide l (j + k) hjl
              have ex : (l.drop j)[k] = l[j + k] := List.getElem_drop
              obtain ⟨x, hxx⟩ : ∃ x, l[j + k] = x := ⟨_, rfl⟩
              rw [ex, hxx] at hc
              rw [hxx] at hx hD
              obtain ⟨c0, c1, c2, c3, c4⟩ := hc
              have HRW := Lib.hid hrw
              have HXX := Lib.hid hx
              have HD := Lib.hid hD
              have k1 : (k : Int) < n' := by omega
              have HLT := Lib.hid hlt
              obtain ⟨hf3, hk3, hi3, hfo, hms⟩ := HP3.out
              obtain ⟨_, _, _, _, hfa⟩ := id hf3
              have HFT := Lib.hid (fitting_pro wide g x (wr.alloc (boxG x)) (bx_cellsP (hfa.below (below_box wr (boxG x))).blk).1)
              have HFM := Lib.hid (hf3.more (boxG x))
              have HKM := Lib.hid (hk3.trans (Kp.of (below_box wr (boxG x)) hf3.lt))
              have HXN := Lib.hid (heap_alloc_new wr (boxG x))
              obtain ⟨bb, hbb⟩ : ∃ bb, wr.heap.size = bb := ⟨_, rfl⟩
              rw [hbb] at HXN
              unfold boxG glV at HFT
              unfold boxG at HFM HKM HXN
              clear hrw hx hD ex hxx hlt hf3 hk3 hi3 hfo hms hfa
              go_wp2_with fail
              refine HFT.out.mono ?_
              unfold MakesG
              obtain ⟨y, hy⟩ : ∃ y, fitG wide x = y := ⟨_, rfl⟩
              rw [hy]
              rintro e w2 ⟨rfl, hb2⟩
              have HBB := Lib.hid hbb
              have hx2 := (hb2.block bb (by rw [← hbb]; simp)).trans HXN.out
              have z0 := heap_setCell_same w2 bb 0 _ _ (.string y.t) hx2
              have z1 := heap_setCell_same _ bb 1 _ _ (.int .i64 y.wd) z0
              have z2 := heap_setCell_same _ bb 2 _ _ (.int .i64 y.at_) z1
              have z3 := heap_setCell_same _ bb 3 _ _ (.int .i64 y.co) z2
              have z4 := heap_setCell_same _ bb 4 _ _ (.int .i64 y.lk) z3
              have hB5 : Below wr.heap.size wr (((((w2.setCell ⟨bb, 0, none⟩ (.string y.t)).setCell ⟨bb, 1, none⟩ (.int .i64 y.wd)).setCell ⟨bb, 2, none⟩ (.int .i64 y.at_)).setCell ⟨bb, 3, none⟩ (.int .i64 y.co)).setCell ⟨bb, 4, none⟩ (.int .i64 y.lk)) := by
                have h0 := (below_box wr (.cells #[.string x.t, .int .i64 x.wd, .int .i64 x.at_, .int .i64 x.co, .int .i64 x.lk] 59)).trans (hb2.mono (by simp))
                exact ((((h0.setCell (by simp [hbb]) _).setCell (by simp [hbb]) _).setCell (by simp [hbb]) _).setCell (by simp [hbb]) _).setCell (by simp [hbb]) _
              have p0 : w2.cell? ⟨bb, 0, none⟩ = some (.string x.t) := by rw [cell_of_row _ _ _ _ _ _ hx2]; rfl
              have p1 : w2.cell? ⟨bb, 1, none⟩ = some (.int .i64 x.wd) := by rw [cell_of_row _ _ _ _ _ _ hx2]; rfl
              have p2 : w2.cell? ⟨bb, 2, none⟩ = some (.int .i64 x.at_) := by rw [cell_of_row _ _ _ _ _ _ hx2]; rfl
              have p3 : w2.cell? ⟨bb, 3, none⟩ = some (.int .i64 x.co) := by rw [cell_of_row _ _ _ _ _ _ hx2]; rfl
              have p4 : w2.cell? ⟨bb, 4, none⟩ = some (.int .i64 x.lk) := by rw [cell_of_row _ _ _ _ _ _ hx2]; rfl
              have f0 := frozen_of_row w2 bb 0 _ _ hx2
              have f1 := frozen_of_row w2 bb 1 _ _ hx2
              have f2 := frozen_of_row w2 bb 2 _ _ hx2
              have f3 := frozen_of_row w2 bb 3 _ _ hx2
              have f4 := frozen_of_row w2 bb 4 _ _ hx2
              obtain ⟨W5, hW5⟩ : ∃ W5, (((((w2.setCell ⟨bb, 0, none⟩ (.string y.t)).setCell ⟨bb, 1, none⟩ (.int .i64 y.wd)).setCell ⟨bb, 2, none⟩ (.int .i64 y.at_)).setCell ⟨bb, 3, none⟩ (.int .i64 y.co)).setCell ⟨bb, 4, none⟩ (.int .i64 y.lk)) = W5 := ⟨_, rfl⟩
              rw [hW5] at z4 hB5
              obtain ⟨r0, r1, r2, r3, r4⟩ : W5.cell? ⟨bb, 0, none⟩ = some (.string y.t) ∧ W5.cell? ⟨bb, 1, none⟩ = some (.int .i64 y.wd) ∧ W5.cell? ⟨bb, 2, none⟩ = some (.int .i64 y.at_) ∧ W5.cell? ⟨bb, 3, none⟩ = some (.int .i64 y.co) ∧ W5.cell? ⟨bb, 4, none⟩ = some (.int .i64 y.lk) := by
                refine ⟨?_, ?_, ?_, ?_, ?_⟩ <;> rw [cell_of_row _ _ _ _ _ _ z4] <;> rfl
              rw [hy] at HXX
              have hyb := HXX.out
              rw [hy] at HD
              obtain ⟨hf3, hk3, hi3, hfo, hms⟩ := HP3.out
              rw [HD.out] at hfo
              obtain ⟨_, _, _, _, hfa⟩ := id (hf3.below hB5)
              obtain ⟨q0, q1, q2, q3, q4⟩ := bx_cellsP hfa.blk
              have hn1 := hi3.nn
              have hn2 := hi3.le
              have HF5 := Lib.hid (hf3.below hB5)
              have HK5 := Lib.hid (hk3.trans (Kp.of hB5 hf3.lt))
              have HI3 := Lib.hid hi3
              have HFO := Lib.hid hfo
              have HMS := Lib.hid hms
              obtain ⟨t, ht⟩ : ∃ t, wid s3.line = t := ⟨_, rfl⟩
              have HT := Lib.hid ht
              rw [ht] at q3 hn1 hn2
              have y1 := hyb.1.1
              have y2 := hyb.1.2
              have y3 := hyb.2
              have y0 : 0 ≤ y.wd := by omega
              have sw : IntKind.i64.wrap (t + y.wd) = t + y.wd := IntWalk.i64_in _ (by omega)
              have HJL := Lib.hid hjl
              clear hx2 z0 z1 z2 z3 z4 hb2 hB5 hf3 hk3 hi3 hfo hms hfa ht hy hyb hbb hjl hkl c0 c1 c2 c3 c4
              unfold glV
              by_cases hov : wide < t + y.wd
              · have hovd : decide (wide < t + y.wd) = true := decide_eq_true hov
                go_wp2_with fail
                try simp only [hW5]
                go_quiet (fail)
                have HMX := Lib.hid (show meas s3 = s3.out.length + 1 by
                  have : s3.line ≠ [] := fun e => by have := HT.out; rw [e] at this; simp only [wid] at this; omega
                  unfold meas; rw [if_neg this])
                have HE := Lib.hid (end_pro (W5.drewN nq) (HF5.out.below (dn_below (Below.refl _ _) nq)) (by have := HMS.out; have := out_le s3; have := HJL.out; omega))
                have hcne : cap' ≠ k := by omega
                have hkc : k ≤ cap' := by omega
                have hkn : k ≤ n' := by omega
                have hkci : (k : Int) ≤ cap' := by omega
                have hkni : (k : Int) ≤ n' := by omega
                clear p0 p1 p2 p3 p4 f0 f1 f2 f3 f4 r0 r1 r2 r3 r4 q0 q1 q2 q3 q4 sw
                have HOV := Lib.hid hov
                clear hov hovd
                go_wp2_with fail
                refine HE.out.mono ?_
                rintro e w6 ⟨rfl, hf6, hk6⟩
                have HK6 := Lib.hid ((HK5.out.trans (Kp.of (dn_below (Below.refl _ _) nq) HF5.out.lt)).trans hk6)
                have HF6 := Lib.hid hf6
                clear hf6 hk6
                go_wp2_with fail
                go_roundw
                case measure =>
                  have h1 := fl_int HF6.out
                  have h2 := HMO.out
                  have h3 := HT.out
                  have h4 := HOV.out
                  have h5 := HK0.out
                  simp only [lenV]
                  rw [h1, h2]
                  simp only [endS, wid, if_true]
                  rcases Nat.eq_zero_or_pos k with h0 | h0
                  · rw [← h5 h0, h3, if_neg (by omega)]
                    omega
                  · split <;> omega
                case rel =>
                  refine ⟨j + k, n' - k, cap' - k, some ⟨b, off + k * 5, none⟩, endS s3, rfl, by have := HJ.out; omega, by omega, Lib.hid ?_, Lib.hid ⟨HF6.out, HK6.out, HI3.out.ended (by omega), ?_, ?_⟩⟩
                  · have h1 := HR2.out.drop k hkn
                    rw [List.drop_drop] at h1
                    exact h1.keep fun a ha _ => World.cell?_of_block (by rw [HK6.out.block _ (hP _ ha), HP2.out.2.1.block _ (hP _ ha)])
                  · rw [HD.out, List.foldl_cons, signS_end (by rw [HT.out]; exact HOV.out) y3]
                    exact HFO.out
                  · have := HMS.out
                    have := HMX.out
                    rw [meas_end]
                    omega
              · have hovd : decide (wide < t + y.wd) = false := decide_eq_false hov
                go_wp2_with fail
                try simp only [hW5]
                go_quiet (fail)
                have HE := Lib.hid (put_pro y (W5.drewN nq) (HF5.out.below (dn_below (Below.refl _ _) nq)) (by have := HI3.out.len; omega) (by rw [HT.out]; omega) (by rw [HT.out]; omega) (by omega))
                unfold glV at HE
                have HOV := Lib.hid hov
                clear hov hovd
                go_wp2_with fail
                refine HE.out.mono ?_
                rintro e w6 ⟨rfl, hf6, hk6⟩
                have HK6 := Lib.hid ((HK5.out.trans (Kp.of (dn_below (Below.refl _ _) nq) HF5.out.lt)).trans hk6)
                have HF6 := Lib.hid hf6
                clear hf6 hk6
                go_wp2_with fail
                go_roundw
                case measure => have := HLT.out; simp [intOf]; omega
                case rel =>
                  have hsg : signS wide s3 y = putS s3 y := by unfold signS; rw [if_neg (by rw [HT.out]; have := HOV.out; omega)]
                  refine ⟨k + 1, putS s3 y, rfl, by go_num, HLT.out, Lib.hid ⟨HF6.out, HK6.out, HI3.out.put ⟨y1, y2⟩ (by rw [HT.out]; have := HOV.out; omega), ?_, ?_⟩, Lib.hid (fun h => absurd h (by omega))⟩
                  · have h := HFO.out
                    rw [List.foldl_cons, hsg] at h
                    exact h
                  · have := HMS.out
                    have := out_le s3
                    have := HJL.out
                    rw [meas_put]
                    omega
            · obtain rfl : k = n' := by omega
              have hz1 : ¬ (k : Int) < k := by omega
              have hPE := HP3.out
              have hEnd : F = s3 := by
                have h := hPE.2.2.2.1
                rw [show l.drop (j + k) = [] from List.drop_eq_nil_of_le (by have := HJ.out; have := HN.out; omega)] at h
                exact h.symm
              have HEnd := Lib.hid hEnd
              clear hlt hEnd hPE
              go_wp2_with fail
              try rw [Exit.noGoto_ret]
              go_end0
              exact ⟨rfl, by rw [HFF.out, HEnd.out]; exact HP3.out.1, HP3.out.2.1⟩
end Go.Proofs.YtalomeialegmiaaGreatDoor.Tb
end
section
namespace Go.Proofs.YtalomeialegmiaaGreatDoor.Tb
open Go.RowKit Go.Maps
set_option linter.unusedVariables false
set_option linter.unusedSimpArgs false
/-- How many glyphs are taken, and what is so behind it. -/
def tookN (x : Gl) (l : List Gl) : Nat := if sgn x then (firstW (x :: l)).length else 1
def tookS (wide : Int) (s : Fs) (x : Gl) (l : List Gl) : Fs := if sgn x then wordS wide s (fitL wide (firstW (x :: l))) else stepS wide s x
theorem runF_took (wide : Int) (s : Fs) (x : Gl) (l : List Gl) : runF wide s (x :: l) = runF wide (tookS wide s x l) ((x :: l).drop (tookN x l)) := by
  unfold tookS tookN
  cases h : sgn x with
  | true => rw [if_pos rfl, if_pos rfl]; exact runF_word wide s x l h
  | false => simp only [Bool.false_eq_true, if_false]; exact runF_step wide s x l h
theorem took_le (x : Gl) (l : List Gl) : 1 ≤ tookN x l ∧ tookN x l ≤ l.length + 1 := by
  unfold tookN
  split
  · rename_i h
    exact ⟨firstW_pos h, firstW_le _⟩
  · omega
theorem fit_all {wide : Int} {l : List Gl} (h1 : 1 ≤ wide) (hb : ∀ y ∈ l, badG y = false) (hs : ∀ y ∈ l, sgn y = true) : ∀ x ∈ l, (1 ≤ (fitG wide x).wd ∧ (fitG wide x).wd ≤ 2) ∧ (fitG wide x).wd ≤ wide :=
  fun x hx => fit_ok h1 (hb x hx) (hs x hx)
theorem took_inv {wide : Int} {s : Fs} (h : Inv wide s) (x : Gl) (l : List Gl) (h1 : 1 ≤ wide) (hb : ∀ y ∈ x :: l, badG y = false) : Inv wide (tookS wide s x l) ∧ meas (tookS wide s x l) ≤ meas s + tookN x l := by
  unfold tookS tookN
  split
  · have := wordS_inv h (by omega) (w := fitL wide (firstW (x :: l))) (fun g hg => by
      obtain ⟨y, hy, rfl⟩ := List.mem_map.1 hg
      exact fit_ok h1 (hb y (firstW_sub _ y hy)) (firstW_all _ y hy))
    simpa [fitL] using this
  · exact stepS_inv h x (by omega)
def TakePost (B g : Nat) (wide : Int) (K : Nat → Prop) (s : Fs) (n : Nat) (w : World) (e : Ending) (w' : World) : Prop := e = .returned (.int .i64 n) ∧ Fl true B g wide K s w' ∧ Kp K w w'
set_option maxRecDepth 100000 in
set_option maxHeartbeats 4000000 in
theorem take_pro {P : Nat → Prop} {B g : Nat} {wide : Int} {K : Nat → Prop} {s : Fs} (x : Gl) (l : List Gl) (v : Value) (w : World) (h : Fl true B g wide K s w) (hr : RdG P w v (x :: l)) (hP : ∀ c, P c → K c) (hi : Inv wide s) (hw1 : 1 ≤ wide) (hw2 : wide ≤ 200)
    (hl : (meas s + (l.length + 1)) * 24 ≤ 140737488355328) (hb : ∀ y ∈ x :: l, badG y = false) :
    Calls Tryz.prog 145 #[.pointer (some ⟨g, 0, none⟩), v] w (TakePost B g wide K (tookS wide s x l) (tookN x l) w) := by
  obtain ⟨pa, cap, rfl, hc1, hc2⟩ := sliceG hr
  obtain ⟨b, off, rfl, hpb, hc⟩ := hr.at_ (j := 0) (by simp)
  rw [List.getElem_cons_zero, Nat.zero_mul, Nat.add_zero] at hc
  obtain ⟨c0, c1, c2, c3, c4⟩ := hc
  have hA := below_box w (boxG x)
  have hfl := h.below hA
  have hKA := Kp.of hA h.lt
  have HFW := Lib.hid hfl
  have HKA := Lib.hid hKA
  have HR := Lib.hid (hr.below hA)
  have HOL := Lib.hid (show (s.out.length + 1) * 24 ≤ 140737488355328 by have := out_le s; omega)
  have HLN := Lib.hid hi.len
  obtain ⟨n, hn⟩ : ∃ n, (x :: l).length = n := ⟨_, rfl⟩
  have HN := Lib.hid hn
  have hn0 : 0 < n := by rw [← hn]; simp
  have hn0i : (0 : Int) < n := by omega
  rw [hn] at HR ⊢
  have HI := Lib.hid hi
  have HLL := Lib.hid hl
  have HBD := Lib.hid hb
  obtain ⟨bb, hbb⟩ : ∃ bb, w.heap.size = bb := ⟨_, rfl⟩
  clear hc1 hn hA h hr hi hl hb hfl hKA
  cases h1 : isB x with
  | true =>
    have HS := Lib.hid (show tookS wide s x l = waitS s x ∧ tookN x l = 1 by simp [tookS, tookN, sgn, noS, h1, stepS])
    have HW := Lib.hid (wait_pro x _ HFW.out (by have := HLN.out; omega))
    unfold boxG glV at HW
    unfold isB at h1
    clear hbb
    go_enter Tryz.func145, Tryz.ntmps145
    go_wp2_with fail
    refine HW.out.mono ?_
    rintro e w2 ⟨rfl, hf, hk⟩
    have HF2 := Lib.hid hf
    have HK2 := Lib.hid (HKA.out.trans hk)
    clear hf hk
    go_wp2_with fail
    go_ret
    exact ⟨by rw [HS.out.2]; rfl, by rw [HS.out.1]; exact HF2.out, HK2.out⟩
  | false =>
    cases h2 : isT x with
    | true =>
      have hst : tookS wide s x l = tabS wide s x ∧ tookN x l = 1 := by simp [tookS, tookN, sgn, noS, h1, h2, stepS]
      obtain ⟨_, _, _, _, hfa⟩ := HFW.out
      obtain ⟨q0, q1, q2, q3, q4⟩ := bx_cellsP hfa.blk
      have hu1 := HI.out.nn
      have hu2 := HI.out.le
      have HSO := Lib.hid (show stopOf s = wid s.line / 8 * 8 + 8 from rfl)
      obtain ⟨u, hu⟩ : ∃ u, wid s.line = u := ⟨_, rfl⟩
      have HU := Lib.hid hu
      rw [hu] at q3 hu1 hu2 HSO
      unfold isB at h1
      unfold isT at h2
      have d1 : 0 ≤ u / 8 := by omega
      have d2 : u / 8 ≤ 25 := by omega
      unfold boxG at q0 q1 q2 q3 q4
      by_cases hlt : u / 8 * 8 + 8 < wide
      · have HS := Lib.hid (show tookS wide s x l = repS s (u / 8 * 8 + 8 - u).toNat (blank x) ∧ tookN x l = 1 by
          refine ⟨?_, hst.2⟩
          rw [hst.1]
          unfold tabS
          rw [if_pos (by rw [HSO.out]; exact hlt), HSO.out, hu]
          rfl)
        have HG := Lib.hid (goOn_pro x (u / 8 * 8 + 8) _ HFW.out (by have := HLN.out; omega) (by rw [hu]; exact hu1) (by rw [hu]; omega) (by omega))
        rw [hu] at HG
        unfold boxG glV at HG
        clear hst hfa hu hbb
        go_enter Tryz.func145, Tryz.ntmps145
        go_wp2_with fail
        refine HG.out.mono ?_
        rintro e w2 ⟨rfl, hf, hk⟩
        have HF2 := Lib.hid hf
        have HK2 := Lib.hid (HKA.out.trans hk)
        clear hf hk
        go_wp2_with fail
        go_ret
        exact ⟨by rw [HS.out.2]; rfl, by rw [HS.out.1]; exact HF2.out, HK2.out⟩
      · have HS := Lib.hid (show tookS wide s x l = endS s ∧ tookN x l = 1 by
          refine ⟨?_, hst.2⟩
          rw [hst.1]
          unfold tabS
          rw [if_neg (by rw [HSO.out]; exact hlt)])
        have HE := Lib.hid (end_pro _ HFW.out HOL.out)
        unfold boxG at HE
        clear hst hfa hu hbb
        go_enter Tryz.func145, Tryz.ntmps145
        go_wp2_with fail
        refine HE.out.mono ?_
        rintro e w2 ⟨rfl, hf, hk⟩
        have HF2 := Lib.hid hf
        have HK2 := Lib.hid (HKA.out.trans hk)
        clear hf hk
        go_wp2_with fail
        go_ret
        exact ⟨by rw [HS.out.2]; rfl, by rw [HS.out.1]; exact HF2.out, HK2.out⟩
    | false =>
      cases h3 : isN x with
      | true =>
        have HS := Lib.hid (show tookS wide s x l = endS s ∧ tookN x l = 1 by simp [tookS, tookN, sgn, noS, h1, h2, h3, stepS])
        have HE := Lib.hid (end_pro _ HFW.out HOL.out)
        unfold boxG at HE
        unfold isB at h1
        unfold isT at h2
        unfold isN at h3
        clear hbb
        go_enter Tryz.func145, Tryz.ntmps145
        go_wp2_with fail
        refine HE.out.mono ?_
        rintro e w2 ⟨rfl, hf, hk⟩
        have HF2 := Lib.hid hf
        have HK2 := Lib.hid (HKA.out.trans hk)
        clear hf hk
        go_wp2_with fail
        go_ret
        exact ⟨by rw [HS.out.2]; rfl, by rw [HS.out.1]; exact HF2.out, HK2.out⟩
      | false =>
        have hsg : sgn x = true := by simp [sgn, noS, h1, h2, h3]
        have HS := Lib.hid (show tookS wide s x l = wordS wide s (fitL wide (firstW (x :: l))) ∧ tookN x l = (firstW (x :: l)).length by simp [tookS, tookN, hsg])
        have HBG := Lib.hid (beginning_pro (x :: l) (some ⟨b, off, none⟩) cap _ (by rw [HN.out]; exact HR.out))
        rw [HN.out] at HBG
        have HRT := Lib.hid (HR.out.take (firstW (x :: l)).length (by rw [← HN.out]; exact firstW_le _))
        rw [firstW_pre] at HRT
        have hfp := firstW_pos (l := l) hsg
        have HFA := Lib.hid (fit_all hw1 (fun y hy => HBD.out y (firstW_sub _ y hy)) (firstW_all (x :: l)))
        have hfle := firstW_le (x :: l)
        have HL2 := Lib.hid (show (meas s + (firstW (x :: l)).length) * 24 ≤ 140737488355328 by have := HLL.out; simp at hfle; omega)
        obtain ⟨m, hm⟩ : ∃ m, (firstW (x :: l)).length = m := ⟨_, rfl⟩
        have HM := Lib.hid hm
        unfold boxG at HBG HRT HFW HKA
        unfold isB at h1
        unfold isT at h2
        unfold isN at h3
        clear hbb hfle hsg
        go_enter Tryz.func145, Tryz.ntmps145
        go_wp2_with fail
        refine HBG.out.mono ?_
        rintro e w2 ⟨rfl, hb2⟩
        have HP2 := Lib.hid (putWord_pro (firstW (x :: l)) _ w2 (HFW.out.below hb2) (HRT.out.below hb2) hP HI.out hw1 hw2 hfp HL2.out HFA.out)
        have HK2 := Lib.hid (HKA.out.trans (Kp.of hb2 HFW.out.lt))
        rw [hm] at HP2 ⊢
        clear hb2 hm hfp
        go_wp2_with fail
        refine HP2.out.mono ?_
        rintro e w3 ⟨rfl, hf, hk⟩
        have HF3 := Lib.hid hf
        have HK3 := Lib.hid (HK2.out.trans hk)
        clear hf hk
        go_wp2_with fail
        go_ret
        exact ⟨by rw [HS.out.2, HM.out]; rfl, by rw [HS.out.1]; exact HF3.out, HK3.out⟩
end Go.Proofs.YtalomeialegmiaaGreatDoor.Tb
end
section
namespace Go.Proofs.YtalomeialegmiaaGreatDoor.Tb
open Go.RowKit Go.Maps
set_option linter.unusedVariables false
set_option linter.unusedSimpArgs false
/-- What Fill answers: the lines, in new memory, and the error's number. -/
def FillPost (wide : Int) (l : List Gl) (w : World) (e : Ending) (w' : World) : Prop := ∃ v, e = .returned (.tuple #[v, .int .i64 (fillE wide l)]) ∧ RdL (w.heap.size ≤ ·) w' v (fillL wide l) ∧ Below w.heap.size w w'
/-- A filling that nothing has come to. -/
theorem Fl.start (d : Bool) (w : World) (wide : Int) {B : Nat} (hB : B ≤ w.heap.size) : Fl d B w.heap.size wide (fun c => c < w.heap.size) fs0 (w.alloc (bx d wide (.slice none 0 0) (.slice none 0 0) 0 (.slice none 0 0))) := by
  refine ⟨_, _, _, [], hB, heap_alloc_new w _, World.ownsRow_nil _ _ _ _, OwnL.nil _ _ _, RdG.nil _ 0 (by unfold maxLen; omega) _, fun c hc => ⟨by simp; omega, by omega, (fun e => by simp [Value.ownBlock] at e), (fun e => by simp [Value.ownBlock] at e)⟩⟩
/-- The lines that were told. -/
theorem Fl.told {d : Bool} {B g : Nat} {wide : Int} {K : Nat → Prop} {s : Fs} {W : World} (h : Fl d B g wide K s W) : ∃ vo vl vw, W.heap[g]? = some (bx d wide vo vl (wid s.line) vw) ∧ RdL (B ≤ ·) W vo s.out := by
  obtain ⟨vo, vl, vw, vs, h⟩ := h
  exact ⟨vo, vl, vw, h.blk, h.out.rd (fun b hb _ => hb) (fun b _ hT => hT.1)⟩
/-- A flow of which the first j have been taken. -/
def FlowAt (d : Bool) (B g : Nat) (wide : Int) (l : List Gl) (F : Fs) (w : World) (j : Nat) (s : Fs) (wr : World) : Prop :=
  Fl d B g wide (fun c => c < B) s wr ∧ Kp (fun c => c < B) w wr ∧ Inv wide s ∧ runF wide s (l.drop j) = F ∧ meas s ≤ j
set_option maxRecDepth 100000 in
set_option maxHeartbeats 4000000 in
theorem fill_pro {P : Nat → Prop} (wide : Int) (l : List Gl) (v : Value) (w : World) (hr : RdG P w v l) (hl : (l.length + 1) * 24 ≤ 140737488355328) :
    Calls Tryz.prog 112 #[v, .int .i64 wide] w (FillPost wide l w) := by
  obtain ⟨pa, cap, rfl, hc1, hc2⟩ := sliceG hr
  have HC := Lib.hid (contains_pro badG 144 enters_mayNot mayNot_pro l _ w hr)
  by_cases hw : 1 ≤ wide ∧ wide ≤ 200
  · have hwi : within wide 1 200 = true := decide_eq_true hw
    have HWI := Lib.hid (within_pro wide 1 200 w)
    rw [hwi] at HWI
    have hw1 := hw.1
    have hw2 := hw.2
    cases hb : l.any badG with
    | true =>
      have HE := Lib.hid (show fillE wide l = 120 ∧ fillL wide l = [] by
        have : fillE wide l = 120 := by unfold fillE; rw [if_neg (by omega), hb]; rfl
        exact ⟨this, by unfold fillL; rw [this]; rfl⟩)
      rw [hb] at HC
      clear hr hl hw hwi hb
      go_enter Tryz.func112, Tryz.ntmps112
      go_wp2_with fail
      refine HWI.out.mono ?_
      rintro e w1 ⟨rfl, rfl⟩
      go_wp2_with fail
      refine HC.out.mono ?_
      rintro e w2 ⟨rfl, hb2⟩
      have HB2 := Lib.hid hb2
      clear hb2
      go_wp2_with fail
      go_ret2
      exact ⟨.slice none 0 0, by rw [HE.out.1]; rfl, by rw [HE.out.2]; exact ⟨none, 0, rfl, Nat.le_refl _, Nat.zero_le _, fun j hj => absurd hj (by simp)⟩, HB2.out⟩
    | false =>
      have hE : fillE wide l = 0 := by unfold fillE; rw [if_neg (by omega), hb]; rfl
      have HE := Lib.hid (show fillE wide l = 0 ∧ fillL wide l = fillM wide l from ⟨hE, by unfold fillL; rw [hE]; rfl⟩)
      have HBD := Lib.hid (show ∀ y ∈ l, badG y = false from fun y hy => by
        cases h : badG y
        · rfl
        · rw [List.any_eq_true.2 ⟨y, hy, h⟩] at hb; cases hb)
      rw [hb] at HC
      have HR := Lib.hid (hr.imp (Q := fun b => b < w.heap.size) fun b hb _ => hb)
      have HLL := Lib.hid hl
      obtain ⟨F, hF⟩ : ∃ F, runF wide fs0 l = F := ⟨_, rfl⟩
      have HFF := Lib.hid hF
      obtain ⟨n, hn⟩ : ∃ n, l.length = n := ⟨_, rfl⟩
      have HN := Lib.hid hn
      rw [hn] at HC HR hc1 ⊢
      clear hr hl hw hwi hb hE hF hn
      go_enter Tryz.func112, Tryz.ntmps112
      go_wp2_with fail
      refine HWI.out.mono ?_
      rintro e w1 ⟨rfl, rfl⟩
      go_wp2_with fail
      refine HC.out.mono ?_
      rintro e w2 ⟨rfl, hb2⟩
      have hB2 := below_box w2 (bx true wide (.slice none 0 0) (.slice none 0 0) 0 (.slice none 0 0))
      have hst := Fl.start true w2 wide (B := w.heap.size) hb2.size
      have HB2 := Lib.hid hb2
      have HFA := Lib.hid (show FlowAt true w.heap.size w2.heap.size wide l F w 0 fs0 (w2.alloc (bx true wide (.slice none 0 0) (.slice none 0 0) 0 (.slice none 0 0))) from ⟨hst.less fun c hc => Nat.lt_of_lt_of_le hc hb2.size, (Kp.of (hb2.trans (hB2.mono hb2.size)) fun c hc => hc), inv0 (by omega), by rw [List.drop_zero]; exact HFF.out, by rw [meas0]; omega⟩)
      have HR2 := Lib.hid (HR.out.below (hb2.trans (hB2.mono hb2.size)))
      unfold bx at HFA HR2
      obtain ⟨g, hg⟩ : ∃ g, w2.heap.size = g := ⟨_, rfl⟩
      rw [hg] at HFA
      have HG := Lib.hid hg
      clear hb2 hB2 hst
      go_wp2_with fail
      go_loopw [0] (fun v wr => ∃ (j n' cap' : Nat) (p' : Option Addr) (s2 : Fs), v = .slice p' n' cap' ∧ n' + j = n ∧ n' ≤ cap' ∧ Hid (RdG (fun b => b < w.heap.size) wr (.slice p' n' cap') (l.drop j)) ∧ Hid (FlowAt true w.heap.size g wide l F w j s2 wr)) (fun v _ => lenV v)
      case atStart => exact ⟨0, n, cap, pa, _, rfl, rfl, hc1, HR2, HFA⟩
      case round =>
        obtain ⟨j, n', cap', p', s2, rfl, hj, hc', HR3, HF3⟩ := hrel
        have HJ := Lib.hid hj
        by_cases hlt : 0 < n'
        · have hjl : j < l.length := by have := HN.out; omega
          have hd : l.drop j = l[j] :: l.drop (j + 1) := List.drop_eq_getElem_cons hjl
          have hr3 := HR3.out
          rw [hd] at hr3
          obtain ⟨b, off, rfl, _, _⟩ := hr3.at_ (j := 0) (by rw [List.length_cons]; omega)
          obtain ⟨hfl, hkp, hinv, hrun, hme⟩ := HF3.out
          rw [hd, runF_took, ← hd, List.drop_drop] at hrun
          have hbd : ∀ y ∈ l[j] :: l.drop (j + 1), badG y = false := fun y hy => HBD.out y (by rw [← hd] at hy; exact List.mem_of_mem_drop hy)
          have hdl : (l.drop (j + 1)).length + 1 = n' := by rw [List.length_drop]; have := HN.out; omega
          have HT := Lib.hid (take_pro (l[j]) (l.drop (j + 1)) _ wr hfl hr3 (fun c hc => hc) hinv hw1 hw2 (by have := HLL.out; have := HN.out; rw [hdl]; omega) hbd)
          have hti := took_inv hinv (l[j]) (l.drop (j + 1)) hw1 hbd
          have htl := took_le (l[j]) (l.drop (j + 1))
          obtain ⟨k, hk⟩ : ∃ k, tookN (l[j]) (l.drop (j + 1)) = k := ⟨_, rfl⟩
          rw [hk] at HT hti htl hrun
          rw [hdl] at htl
          obtain ⟨s3, hs3⟩ : ∃ s3, tookS wide s2 (l[j]) (l.drop (j + 1)) = s3 := ⟨_, rfl⟩
          rw [hs3] at HT hti hrun
          have HRU := Lib.hid hrun
          have HTI := Lib.hid hti
          have HKP := Lib.hid hkp
          have HME := Lib.hid hme
          have k0 : 0 < k := htl.1
          have k2 : k ≤ n' := htl.2
          have k3 : k ≤ cap' := by omega
          have k2i : (k : Int) ≤ n' := by omega
          have k3i : (k : Int) ≤ cap' := by omega
          have hlti : (0 : Int) < n' := by omega
          have HLT := Lib.hid hlt
          clear hd hr3 hfl hkp hinv hrun hme hbd hdl hti htl hk hs3 hj hlt
          go_wp2_with fail
          refine HT.out.mono ?_
          rintro e w4 ⟨rfl, hf4, hk4⟩
          have HF4 := Lib.hid hf4
          have HK4 := Lib.hid (HKP.out.trans hk4)
          have HR4 := Lib.hid (HR3.out.keep fun a ha _ => World.cell?_of_block (hk4.block _ ha))
          clear hf4 hk4
          by_cases hck : cap' = k
          · have hn : n' = k := by omega
            have HNK := Lib.hid hn
            subst hck
            go_wp2_with fail
            go_roundw
            case measure => have := HLT.out; simp only [lenV]; omega
            case rel =>
              have e : l.drop (j + cap') = [] := List.drop_eq_nil_of_le (by have := HJ.out; have := HN.out; have := HNK.out; omega)
              refine ⟨j + cap', 0, 0, some ⟨b, off, none⟩, s3, rfl, by have := HJ.out; have := HNK.out; omega, by omega, Lib.hid ?_, Lib.hid ⟨HF4.out, HK4.out, HTI.out.1, HRU.out, by have := HTI.out.2; have := HME.out; omega⟩⟩
              rw [e]
              exact RdG.nil _ _ (by unfold maxLen; omega) _
          · have hckn : ¬ cap' = k := hck
            go_wp2_with fail
            go_roundw
            case measure => have := HLT.out; simp only [lenV]; omega
            case rel =>
              refine ⟨j + k, n' - k, cap' - k, some ⟨b, off + k * 5, none⟩, s3, rfl, by have := HJ.out; omega, by omega, Lib.hid ?_, Lib.hid ⟨HF4.out, HK4.out, HTI.out.1, HRU.out, by have := HTI.out.2; have := HME.out; omega⟩⟩
              have := HR4.out.drop k k2
              rw [List.drop_drop] at this
              exact this
        · obtain rfl : n' = 0 := by omega
          obtain ⟨hfl, hkp, hinv, hrun, hme⟩ := HF3.out
          have e : l.drop j = [] := List.drop_eq_nil_of_le (by have := HN.out; omega)
          rw [e, runF_nil] at hrun
          have HE2 := Lib.hid (endUsed_pro wr hfl (by have := HLL.out; have := HN.out; have := out_le s2; omega) (by have := hinv.len; omega))
          have HRU := Lib.hid hrun
          have HKP := Lib.hid hkp
          clear hfl hkp hinv hrun hme e hj hlt
          go_wp2_with fail
          refine HE2.out.mono ?_
          rintro e w4 ⟨rfl, hf4, hk4⟩
          obtain ⟨vo, vl, vw, hblk, hout⟩ := hf4.told
          obtain ⟨q0, q1, q2, q3, q4⟩ := bx_cellsP hblk
          have HO := Lib.hid hout
          have HK4 := Lib.hid (HKP.out.trans hk4)
          clear hf4 hk4 hblk hout
          go_wp2_with fail
          go_ret2
          exact ⟨vo, by rw [HE.out.1]; rfl, by rw [HE.out.2, fillM_eq, HFF.out, ← HRU.out]; exact HO.out, HK4.out.below fun c hc => hc⟩
  · have hwi : within wide 1 200 = false := decide_eq_false hw
    have HWI := Lib.hid (within_pro wide 1 200 w)
    rw [hwi] at HWI
    have HE := Lib.hid (show fillE wide l = 1 ∧ fillL wide l = [] by
      have : fillE wide l = 1 := by unfold fillE; rw [if_pos (by omega)]
      exact ⟨this, by unfold fillL; rw [this]; rfl⟩)
    clear hr hl hw hwi HC
    go_enter Tryz.func112, Tryz.ntmps112
    go_wp2_with fail
    refine HWI.out.mono ?_
    rintro e w1 ⟨rfl, rfl⟩
    go_wp2_with fail
    go_ret2
    exact ⟨.slice none 0 0, by rw [HE.out.1]; rfl, by rw [HE.out.2]; exact ⟨none, 0, rfl, Nat.le_refl _, Nat.zero_le _, fun j hj => absurd hj (by simp)⟩, Below.refl _ _⟩
end Go.Proofs.YtalomeialegmiaaGreatDoor.Tb
end
section
namespace Go.Proofs.YtalomeialegmiaaGreatDoor.Tb
open Go.RowKit Go.Maps
set_option linter.unusedVariables false
set_option linter.unusedSimpArgs false
theorem Fl.fresh {d : Bool} {B g : Nat} {wide : Int} {K : Nat → Prop} {s : Fs} {W W' : World} (h : Fl d B g wide K s W) (hb : Below W.heap.size W W') : Fl d B g wide (fun c => K c ∨ (W.heap.size ≤ c ∧ c < W'.heap.size)) s W' := by
  obtain ⟨vo, vl, vw, vs, h⟩ := h
  have h' := h.below hb
  have n := h.ng
  refine ⟨vo, vl, vw, vs, h'.base, h'.blk, h'.line, h'.out, h'.wait, fun c hc => ?_⟩
  rcases hc with hc | hc
  · exact h'.apart c hc
  · exact ⟨hc.2, by omega, (fun e => by have := (own_base h.line e).2; omega), (fun e => by have := (own_base h.out.row e).2; omega)⟩
end Go.Proofs.YtalomeialegmiaaGreatDoor.Tb
end
section
namespace Go.Proofs.YtalomeialegmiaaGreatDoor.Tb
open Go.RowKit Go.Maps
set_option linter.unusedVariables false
set_option linter.unusedSimpArgs false
section
variable {P : Program} {w : World}
theorem run_append_nilc (base : Nat) (t ty e : TypeId) (i : TypeInfo) (size : Nat) (ht : P.underlying t = some (.slice e)) (hi : P.info? e = some i)
    (v : Value) (n : Nat) (xs : List Value) (hown : w.ownsRow base e size v n xs) (c : Nat) :
    (Builtin.append_ #[t, t] ty #[v, .slice none 0 c]).run P w = .ok v w := by
  rcases hown.2 with ⟨rfl, rfl⟩ | ⟨g, cap, cur, rfl, _, _, hnc, _⟩
  · simp [Builtin.append_, run_underlying ht, sizeOf, typeInfo, hi, Builtin.lenOf, Builtin.firstCells]
  · simp [Builtin.append_, run_underlying ht, sizeOf, typeInfo, hi, Builtin.lenOf, Builtin.firstCells, hnc, storeCells]
/-- What is appended: so many elements, the cells known where there is one. -/
structure Lies (w : World) (size : Nat) (vx : Value) (m : Nat) (ys : List Value) : Prop where
  len : ys.length = m * size
  one : ∀ u ∈ ys, u.oneCell' = true
  at' : (∃ c, vx = .slice none 0 c ∧ m = 0) ∨ ∃ a c, vx = .slice (some a) m c ∧ ∀ j u, ys[j]? = some u → w.cell? (a.add j) = some u
theorem run_append_lies' (base : Nat) (t ty e : TypeId) (i : TypeInfo) (z : Value) (size bytes : Nat) (ht : P.underlying t = some (.slice e)) (hi : P.info? e = some i) (hz : i.zero = some z)
    (hsize : i.size = size) (hby : i.bytes = bytes) (hzs : z.cells.size = size) (hsz : 0 < size)
    (v : Value) (n : Nat) (xs : List Value) (hown : w.ownsRow base e size v n xs) (vx : Value) (m : Nat) (ys : List Value) (hx : Lies w size vx m ys)
    (h63 : n + m ≤ maxLen) (hbytes : (n + m) * bytes ≤ 140737488355328) (hbase : base ≤ w.heap.size) :
    ∃ v' w', (Builtin.append_ #[t, t] ty #[v, vx]).run P w = .ok v' w' ∧ w'.ownsRow base e size v' (n + m) (xs ++ ys) ∧ w.grownBy w' v.ownBlock := by
  rcases hx.at' with ⟨c, rfl, rfl⟩ | ⟨a, c, rfl, hc⟩
  · have hys : ys = [] := List.eq_nil_of_length_eq_zero (by have := hx.len; omega)
    subst hys
    exact ⟨v, w, run_append_nilc base t ty e i size ht hi v n xs hown c, by simpa using hown, ⟨rfl, rfl, rfl, Nat.le_refl _, fun _ _ _ => rfl⟩⟩
  · obtain ⟨v', w', h2, h3, h4, _⟩ := run_append_own (P := P) w base t ty e i z size bytes ht hi hz hsize hby hzs hsz v n xs hown a m c ys hx.len hc hx.one h63 hbytes hbase
    exact ⟨v', w', h2, h3, h4⟩
theorem wpList_append_lies' {ops : Array Oper} {rest : List Oper} {o : Oper} {a : Act} {Q : Exit → Act → World → Prop} (hgd : o.guard = none) (s x : Operand) (t : TypeId)
    (ho : o.op = .call { callee := .builtin .append, args := #[s, x], argTypes := #[t, t] })
    (base : Nat) (e : TypeId) (i : TypeInfo) (z : Value) (size bytes : Nat) (ht : P.underlying t = some (.slice e)) (hi : P.info? e = some i) (hz : i.zero = some z)
    (hsize : i.size = size) (hby : i.bytes = bytes) (hzs : z.cells.size = size) (hsz : 0 < size)
    (v : Value) (n : Nat) (xs : List Value) (hs : a.eval s = v) (hown : w.ownsRow base e size v n xs) (vx : Value) (m : Nat) (ys : List Value) (hvx : a.eval x = vx) (hx : Lies w size vx m ys)
    (h63 : n + m ≤ maxLen) (hbytes : (n + m) * bytes ≤ 140737488355328) (hbase : base ≤ w.heap.size)
    (h : ∀ v' w', w'.ownsRow base e size v' (n + m) (xs ++ ys) → w.grownBy w' v.ownBlock → wpList P ops Q rest (a.put o.dst v') w') : wpList P ops Q (o :: rest) a w :=
  wpList_plain hgd fun _ hK => by
    obtain ⟨v', w', hr, h2, h3⟩ := run_append_lies' (P := P) (w := w) base t o.type e i z size bytes ht hi hz hsize hby hzs hsz v n xs hown vx m ys hx h63 hbytes hbase
    unfold Oper.wp execOp
    simp only [ho, resolve, invoke, builtin, Sem.run_bind, Sem.run_pure, Result.andThen_ok, List.map_toArray, List.map_cons, List.map_nil, hs, hvx, hr]
    exact hK _ _ (h v' w' h2 h3)
end
theorem Lies.alloc {w : World} {size : Nat} {vx : Value} {m : Nat} {ys : List Value} (h : Lies w size vx m ys) (o : Obj) : Lies (w.alloc o) size vx m ys := by
  refine ⟨h.len, h.one, ?_⟩
  rcases h.at' with h1 | ⟨a, c, rfl, hc⟩
  · exact .inl h1
  · exact .inr ⟨a, c, rfl, fun j u hj => by
      have := hc j u hj
      exact (((Below.refl _ w).alloc (Nat.le_refl _) o).cell (World.block_lt_of_cell? w _ this)).trans this⟩
theorem Lies.below {w w' : World} {size : Nat} {vx : Value} {m : Nat} {ys : List Value} (h : Lies w size vx m ys) (hb : Below w.heap.size w w') : Lies w' size vx m ys := by
  refine ⟨h.len, h.one, ?_⟩
  rcases h.at' with h1 | ⟨a, c, rfl, hc⟩
  · exact .inl h1
  · exact .inr ⟨a, c, rfl, fun j u hj => by
      have := hc j u hj
      exact (hb.cell (World.block_lt_of_cell? w _ this)).trans this⟩
theorem rowsG_cell : ∀ (l : List Gl) (j : Nat) (u : Value), (rowsG l)[j]? = some u → ∃ i k, ∃ hi : i < l.length, j = i * 5 + k ∧ (glRow l[i])[k]? = some u
  | [], j, u, h => by simp [rowsG] at h
  | a :: l, j, u, h => by
    have e : rowsG (a :: l) = glRow a ++ rowsG l := by simp [rowsG]
    have hl : (glRow a).length = 5 := rfl
    rw [e] at h
    rcases Nat.lt_or_ge j 5 with h5 | h5
    · rw [List.getElem?_append_left (by omega)] at h
      exact ⟨0, j, by simp, by omega, h⟩
    · rw [List.getElem?_append_right (by omega), hl] at h
      obtain ⟨i, k, hi, h1, h2⟩ := rowsG_cell l (j - 5) u h
      exact ⟨i + 1, k, by simpa using hi, by omega, by simpa using h2⟩
theorem GlIs.cells {W : World} {b o : Nat} {x : Gl} (h : GlIs W b o x) (k : Nat) (u : Value) (hu : (glRow x)[k]? = some u) : W.cell? ⟨b, o + k, none⟩ = some u := by
  obtain ⟨h0, h1, h2, h3, h4⟩ := h
  match k with
  | 0 => simp [glRow] at hu; rw [← hu]; exact h0
  | 1 => simp [glRow] at hu; rw [← hu]; exact h1
  | 2 => simp [glRow] at hu; rw [← hu]; exact h2
  | 3 => simp [glRow] at hu; rw [← hu]; exact h3
  | 4 => simp [glRow] at hu; rw [← hu]; exact h4
  | k + 5 => simp [glRow] at hu
theorem RdG.lies {P : Nat → Prop} {w : World} {v : Value} {l : List Gl} (h : RdG P w v l) : Lies w 5 v l.length (rowsG l) := by
  obtain ⟨pa, cap, rfl, _, _, h4⟩ := h
  refine ⟨rowsG_len l, rowsG_one l, ?_⟩
  cases pa with
  | none =>
    left
    have : l.length = 0 := by
      rcases Nat.eq_zero_or_pos l.length with h | h
      · exact h
      · obtain ⟨b, off, e, _⟩ := h4 0 h; cases e
    exact ⟨cap, by rw [this], this⟩
  | some a =>
    right
    refine ⟨a, cap, rfl, fun j u hj => ?_⟩
    obtain ⟨i, k, hi, rfl, hk⟩ := rowsG_cell l j u hj
    obtain ⟨b, off, e, _, hc⟩ := h4 i hi
    cases e
    have := hc.cells k u hk
    rw [Addr.add_lit, ← Nat.add_assoc]
    exact this
/-- A new list of glyphs. -/
def MakesR (l : List Gl) (w : World) (e : Ending) (w' : World) : Prop := ∃ v, e = .returned v ∧ w'.ownsRow w.heap.size 59 5 v l.length (rowsG l) ∧ Below w.heap.size w w'
end Go.Proofs.YtalomeialegmiaaGreatDoor.Tb
end
section
namespace Go.Proofs.YtalomeialegmiaaGreatDoor.Tb
open Go.RowKit Go.Maps
set_option linter.unusedVariables false
set_option linter.unusedSimpArgs false
theorem zeroCells_rep (z : Array Value) (u : Value) (hz : z = #[u]) (n : Nat) : (Builtin.zeroCells z n).toList = List.replicate n u := by
  subst hz
  apply List.ext_getElem?
  intro j
  simp [Builtin.zeroCells]
  by_cases h : j < n
  · simp [h, Nat.mod_one]
  · simp [h]
/-- Zeros behind a row of the call's own: 'append(s, make(..)...)', of elements of one cell. -/
theorem run_append_zeros {P : Program} (w : World) (base : Nat) (t tn ty e : TypeId) (i : TypeInfo) (z : Value) (bytes : Nat) (kn : IntKind) (ht : P.underlying t = some (.slice e)) (htn : P.underlying tn = some (.int kn)) (hi : P.info? e = some i) (hz : i.zero = some z)
    (hsize : i.size = 1) (hby : i.bytes = bytes) (hzs : z.cells = #[z]) (hone : z.oneCell' = true)
    (v : Value) (n : Nat) (xs : List Value) (hown : w.ownsRow base e 1 v n xs) (k : Nat) (hk : 0 < k)
    (h63 : n + k ≤ maxLen) (hbytes : (n + k) * bytes ≤ 140737488355328) (hbase : base ≤ w.heap.size) :
    ∃ v' w', (Builtin.append_ #[t, tn] ty #[v, .int .i64 k]).run P w = .ok v' w' ∧ w'.ownsRow base e 1 v' (n + k) (xs ++ List.replicate k z) ∧ w.grownBy w' v.ownBlock ∧ ∀ b, v'.ownBlock = some b → v.ownBlock = some b ∨ w.heap.size ≤ b := by
  subst hby
  have hsmall : n + k ≤ 9223372036854775807 := by simp only [maxLen] at h63; omega
  have hlen : (xs ++ List.replicate k z).length = (n + k) * 1 := by rw [List.length_append, hown.1, List.length_replicate]; omega
  have hzc : (Builtin.zeroCells z.cells k).toList = List.replicate k z := zeroCells_rep _ z hzs k
  have hzk : Builtin.zeroCells z.cells k = (List.replicate k z).toArray := by
    have := congrArg List.toArray hzc
    simpa using this
  have grown : ∀ (old : Nat) (row : Option Nat), n + k ≤ grownCap w (n + k) old e →
      (w.drew.alloc (.cells (xs.toArray ++ Builtin.zeroCells z.cells k ++ Builtin.zeroCells z.cells (grownCap w (n + k) old e - (n + k))) e)).ownsRow base e 1
        (.slice (some ⟨w.heap.size, 0, none⟩) (n + k) (grownCap w (n + k) old e)) (n + k) (xs ++ List.replicate k z) ∧
      w.grownBy (w.drew.alloc (.cells (xs.toArray ++ Builtin.zeroCells z.cells k ++ Builtin.zeroCells z.cells (grownCap w (n + k) old e - (n + k))) e)) row := by
    intro old row hge
    have hcm : grownCap w (n + k) old e ≤ maxLen := grownCap_le_maxLen w (n + k) old e h63
    refine ⟨⟨hlen, .inr ⟨w.heap.size, _, _, rfl, hbase, heap_alloc_new w.drew _, hge, hcm, ?_, ?_⟩⟩, ⟨rfl, rfl, rfl, by simp, fun c hc _ => Below.heap_alloc w.drew _ c hc⟩⟩
    · have hx := hown.1
      simp only [Array.size_append, List.size_toArray, size_zeroCells, hzs, hx, List.size_toArray, List.length_singleton]
      simp
      omega
    · simp only [Array.toList_append, List.append_assoc, hzc]
      rw [← List.append_assoc, ← hlen]
      exact List.take_left
  rcases hown.2 with ⟨rfl, rfl⟩ | ⟨g, cap, cur, rfl, hbg, hg, hnc, hcm, hcs, htake⟩
  · have hx : xs = [] := List.eq_nil_of_length_eq_zero (by simpa using hown.1)
    subst hx
    have hr := Lib.run_append_nil_zeros (P := P) w t tn ty e i z .i64 kn ht htn hi hz k hk (by omega) (by omega) (by simp only [Nat.zero_add] at hbytes; omega)
    have hgr := grown 0 (Value.ownBlock (.slice none 0 0)) (grownCap_ge w _ _ _)
    simp only [Nat.zero_add, List.nil_append, Array.empty_append] at hgr ⊢
    exact ⟨_, _, hr, hgr.1, hgr.2, fun b hb => .inr (by simp [Value.ownBlock] at hb; omega)⟩
  · by_cases hroom : n + k ≤ cap
    · have hw : IntKind.i64.wrap (k : Int) = k := by rw [IntKind.wrap_i64]; omega
      have hneg : ¬ ((k : Int) < 0) := by omega
      have h48i : ¬ (281474976710656 < (k : Int) * (i.bytes : Int)) := by
        rw [← Int.natCast_mul]
        have : k * i.bytes ≤ (n + k) * i.bytes := Nat.mul_le_mul_right _ (by omega)
        omega
      have hst := run_storeCells_at P g n e (List.replicate k z) 0 cur w hg (by rw [List.length_replicate]; omega) (fun u hu => by rw [List.mem_replicate] at hu; rw [hu.2]; exact hone)
      simp only [Nat.add_zero] at hst
      have hk0 : k ≠ 0 := by omega
      have hr : (Builtin.append_ #[t, tn] ty #[.slice (some ⟨g, 0, none⟩) n cap, .int .i64 k]).run P w = .ok (.slice (some ⟨g, 0, none⟩) (n + k) cap) (w.setRow g (cur.toList.take n ++ List.replicate k z ++ cur.toList.drop (n + (List.replicate k z).length)).toArray) := by
        simp [Builtin.append_, run_underlying ht, run_underlying htn, sizeOf, typeInfo, zeroValue, hi, hz, asInt, asIntOf, hw, hneg, h48i, hroom, hsize, hk0, hzk, Addr.add_lit]
        simp at hst
        rw [hst]
        rfl
      refine ⟨_, _, hr, ⟨hlen, .inr ⟨g, cap, _, rfl, hbg, setRow_heap w g cur _ e _ hg, hroom, hcm, ?_, ?_⟩⟩, ⟨rfl, rfl, rfl, by simp [World.setRow], fun c _ hk => setRow_other w g c _ (fun e => hk (by simp [Value.ownBlock, e]))⟩, fun b hb => .inl hb⟩
      · simp only [List.size_toArray, List.length_append, List.length_take, List.length_drop, Array.length_toList, List.length_replicate]
        omega
      · have ht2 : cur.toList.take n = xs := by rw [← htake]; congr 1; omega
        rw [ht2, ← hlen]
        exact List.take_left
    · have holds : ∀ j u, xs[j]? = some u → w.cell? ((⟨g, 0, none⟩ : Addr).add j) = some u := hown.cells (g := g) rfl
      have hold := run_firstCells_some (P := P) w.drew i.size n ⟨g, 0, none⟩ n cap xs (by rw [hsize]; exact hown.1) holds
      have hr := Lib.run_append_grow_zeros (P := P) w t tn ty e i z .i64 kn ht htn hi hz (some ⟨g, 0, none⟩) n cap xs hold k hk (by omega) (by omega) (by omega) (by
        have : k * i.bytes ≤ (n + k) * i.bytes := Nat.mul_le_mul_right _ (by omega)
        omega) (growslice_fits (by omega) hbytes)
      have hgr := grown cap (Value.ownBlock (.slice (some ⟨g, 0, none⟩) n cap)) (grownCap_ge w _ _ _)
      exact ⟨_, _, hr, hgr.1, hgr.2, fun b hb => .inr (by simp [Value.ownBlock] at hb; omega)⟩
def GrowPost (w : World) (e : Ending) (w' : World) : Prop := ∃ v, e = .returned v ∧ w'.ownsRow w.heap.size 59 5 v 0 [] ∧ Below w.heap.size w w'
set_option maxRecDepth 100000 in
set_option maxHeartbeats 2000000 in
theorem grow_pro (n : Nat) (w : World) (hn : n * 48 ≤ 140737488355328) : Calls Tryz.prog 172 #[.slice none 0 0, .int .i64 n] w (GrowPost w) := by
  obtain ⟨i0, hi0, hz0, hz1, hz2⟩ := info_parts infoG
  have h1 : ¬ ((n : Int) < 0) := by omega
  by_cases h0 : n = 0
  · subst h0
    go_enter Tryz.func172, Tryz.ntmps172
    go_wp2_with fail
    go_ret
    exact ⟨_, rfl, World.ownsRow_nil _ _ _ _, Below.refl _ _⟩
  · have hp : (0 : Int) < n := by omega
    have hr := fun ty => Lib.run_append_nil_zeros (P := Tryz.prog) w 50 3 ty 59 i0 _ .i64 .i64 Tryz.underlying50 Tryz.underlying3 hi0 hz0 n (by omega) (by omega) (by omega) (by rw [hz2]; omega)
    have HR := Lib.hid hr
    have hge := grownCap_ge w n 0 59
    have hle := grownCap_le_maxLen w n 0 59 (by unfold maxLen; omega)
    obtain ⟨c, hc⟩ : ∃ c, grownCap w n 0 59 = c := ⟨_, rfl⟩
    rw [hc] at hge hle
    have HC := Lib.hid hc
    have HOW := Lib.hid (World.ownsRow_made (e := 59) (size := 5) (base := w.heap.size) w.drew (Builtin.zeroCells (Value.agg #[.string .empty, .int .i64 0, .int .i64 0, .int .i64 0, .int .i64 0]).cells n ++ Builtin.zeroCells (Value.agg #[.string .empty, .int .i64 0, .int .i64 0, .int .i64 0, .int .i64 0]).cells (c - n)) c (Nat.le_refl _) hle (by
      simp only [Array.size_append, size_zeroCells, Value.cells]
      simp
      omega))
    have HBW := Lib.hid ((Below.refl w.heap.size w).drew.alloc (Nat.le_refl _) (.cells (Builtin.zeroCells (Value.agg #[.string .empty, .int .i64 0, .int .i64 0, .int .i64 0, .int .i64 0]).cells n ++ Builtin.zeroCells (Value.agg #[.string .empty, .int .i64 0, .int .i64 0, .int .i64 0, .int .i64 0]).cells (c - n)) 59))
    unfold maxLen at hle
    clear hr hc
    go_enter Tryz.func172, Tryz.ntmps172
    go_wp2_with (at_builtin; go_loud (refine Lib.wpList_append_run _ rfl _ _ _ _ rfl _ _ rfl rfl _ _ (HR.out _) ?_); rw [HC.out])
    go_ret
    exact ⟨_, rfl, HOW.out, HBW.out⟩
end Go.Proofs.YtalomeialegmiaaGreatDoor.Tb
end
