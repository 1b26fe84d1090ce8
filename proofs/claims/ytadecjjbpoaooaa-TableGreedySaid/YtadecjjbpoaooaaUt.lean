/- Layer 12: the program's share. -/
import Derived.Test.YtadecjjbpoaooaaUs
import Derived.Laws.MakeOwn
import Derived.Deep.CutRange
namespace Go.Proofs.Ytadecjjbpoaooaa.Tb
open Go.RowKit Go.Maps
set_option linter.unusedVariables false
set_option linter.unusedSimpArgs false
theorem make_ints (N : Nat) (hN : N ≤ 1000) (w : World) : (Instr.makeSlice 22 (.int .i64 (N : Int)) (.int .i64 (N : Int))).run Try.prog w = .ok (.slice (some ⟨w.heap.size, 0, none⟩) N N) (w.alloc (.cells (madeCells #[.int .i64 0] N) 3)) := by
  obtain ⟨i0, hi0, hz0, hz1, hz2⟩ := info_parts infoI
  have h := run_make (P := Try.prog) w 22 3 i0 (.int .i64 0) Try.underlying22 hi0 hz0 .i64 .i64 (N : Int) (N : Int) (by omega) (by omega) (by rw [hz2]; omega) (by omega)
  rw [hz1, Nat.mul_one, show (N : Int).toNat = N by omega] at h
  exact h
theorem made_int (N : Nat) : (madeCells #[.int .i64 0] N).toList = numsZ (fnL N (fun _ => 0)) := by
  apply List.ext_getElem?
  intro j
  simp [madeCells, numsZ, fnL]
  by_cases h : j < N
  · simp [h, Nat.mod_one]
  · simp [h]
theorem fnL_snoc (n : Nat) (g : Nat → Int) : fnL (n + 1) g = fnL n g ++ [g n] := by simp [fnL, List.range_succ]
theorem sum_snoc (n : Nat) (g : Nat → Int) : sumZ (fnL (n + 1) g) = sumZ (fnL n g) + g n := by
  rw [fnL_snoc, sumZ_app]
  simp [sumZ]
theorem sum_bd {g : Nat → Int} {lo hi : Int} (h : ∀ j, lo ≤ g j ∧ g j ≤ hi) : ∀ n : Nat, lo * n ≤ sumZ (fnL n g) ∧ sumZ (fnL n g) ≤ hi * n
  | 0 => by simp [fnL, sumZ]
  | n + 1 => by
    have := sum_bd h n
    have := h n
    rw [sum_snoc, show ((n + 1 : Nat) : Int) = (n : Int) + 1 by omega, Int.mul_add, Int.mul_add]
    omega
def OkWs (ws : List Int) : Prop := ∀ w ∈ ws, 0 ≤ w ∧ w ≤ 200
theorem wAt_ok {ws : List Int} (h : OkWs ws) (i : Nat) : 0 ≤ wAt ws i ∧ wAt ws i ≤ 200 := by
  by_cases hi : i < ws.length
  · rw [wAt_at hi]
    exact h _ (List.getElem_mem hi)
  · simp [wAt, List.getD_eq_getElem?_getD, hi]
theorem base_ok {ws : List Int} (h : OkWs ws) (i : Nat) : 1 ≤ baseG ws i ∧ baseG ws i ≤ 200 := by
  have := wAt_ok h i
  unfold baseG one
  split <;> omega
theorem base_max {ws : List Int} (h : OkWs ws) (i : Nat) : max (wAt ws i) 1 = baseG ws i := by
  have := wAt_ok h i
  unfold baseG one
  split <;> omega
theorem own_set {W : World} {B n : Nat} {g cap : Nat} {z : Nat → Int} (h : W.ownsRow B 3 1 (.slice (some ⟨g, 0, none⟩) n cap) n (numsZ (fnL n z))) (i : Nat) (v : Int) : (W.setCell ⟨g, i, none⟩ (.int .i64 v)).ownsRow B 3 1 (.slice (some ⟨g, 0, none⟩) n cap) n (numsZ (fnL n (fun j => if j = i then v else z j))) := by
  rw [← fnL_set, ← numsZ_set]
  exact (h.stored i (.int .i64 v)).1
theorem own_fn {W : World} {B n : Nat} {v : Value} {z z' : Nat → Int} (h : W.ownsRow B 3 1 v n (numsZ (fnL n z))) (e : ∀ j, j < n → z j = z' j) : W.ownsRow B 3 1 v n (numsZ (fnL n z')) := by
  rw [← fnL_eq e]
  exact h
theorem own_cell {W : World} {B n g cap : Nat} {z : Nat → Int} (h : W.ownsRow B 3 1 (.slice (some ⟨g, 0, none⟩) n cap) n (numsZ (fnL n z))) {i : Nat} (hi : i < n) : W.cell? ⟨g, i, none⟩ = some (.int .i64 (z i)) ∧ W.frozen? ⟨g, i, none⟩ = false := by
  refine ⟨?_, World.ownsRow.frozenAt h _⟩
  rw [World.ownsRow.cellAt h i (by omega)]
  simp [numsZ, fnL, hi]
def MakesZ (zs : List Int) (w : World) (e : Ending) (w' : World) : Prop := ∃ v, e = .returned v ∧ w'.ownsRow w.heap.size 3 1 v zs.length (numsZ zs) ∧ Below w.heap.size w w'
theorem widthsM_len (ws : List Int) (room : Int) : (widthsM ws room).length = ws.length := by
  unfold widthsM
  split
  · rw [narrowN_len]; simp [baseL, fnL_len]
  · simp [fnL_len]
theorem give_le (f c k : Nat) : give f c k ≤ c + 1 := by
  unfold give
  have := Nat.div_le_self c f
  split <;> omega
theorem left_le (f c k : Nat) : leftN f c k ≤ c := by unfold leftN; omega
theorem share_nums {L m G : Nat} (hL : L ≤ 200) (hm0 : 0 < m) (hm : m ≤ 8) (hG : G ≤ 201) (hgv : (L + m - 1) / m = G) (hle : G ≤ L) :
    ∃ G1 L1 m1 : Nat, ((L : Int) + m - 1) / m = (G : Int) ∧ wrap64 (1 + (G : Int)) = (G1 : Int) ∧ wrap64 ((L : Int) - G) = (L1 : Int) ∧ wrap64 ((m : Int) - 1) = (m1 : Int) ∧ 1 + (G : Int) = (G1 : Int) ∧ L - G = L1 ∧ m - 1 = m1 := by
  refine ⟨1 + G, L - G, m - 1, ?_, ?_, ?_, ?_, rfl, rfl, rfl⟩
  · rw [← hgv, show (L : Int) + m - 1 = ((L + m - 1 : Nat) : Int) by clear hgv; omega]
    rfl
  · clear hgv; rw [IntWalk.wrap64_in _ (by omega)]; omega
  · clear hgv; rw [IntWalk.wrap64_in _ (by omega)]; omega
  · clear hgv; rw [IntWalk.wrap64_in _ (by omega)]; omega
set_option maxRecDepth 100000 in
set_option maxHeartbeats 4000000 in
theorem share_pro {P : Nat → Prop} (ws : List Int) (v : Value) (room : Int) (w : World) (h : RdZ P w v ws) (h0 : 0 < ws.length) (h8 : ws.length ≤ 8) (hk : OkWs ws) (hr : 0 ≤ room ∧ room ≤ 200) :
    Calls Try.prog 27 #[v, .int .i64 room] w (MakesZ (widthsM ws room) w) := by
  obtain ⟨pa, cap, rfl, hc1, hc2⟩ := sliceZ h
  have HH := Lib.hid h
  have HK := Lib.hid hk
  obtain ⟨n, hn⟩ : ∃ n, ws.length = n := ⟨_, rfl⟩
  have HN := Lib.hid hn
  rw [hn] at HH h0 h8 hc1 ⊢
  have r1 := hr.1
  have r2 := hr.2
  have hmk := make_ints n (by omega) w
  have hA := below_box w (.cells (madeCells #[.int .i64 0] n) 3)
  have HO := Lib.hid (show (w.alloc (.cells (madeCells #[.int .i64 0] n) 3)).ownsRow w.heap.size 3 1 (.slice (some ⟨w.heap.size, 0, none⟩) n n) n (numsZ (fnL n (fun j => if j < 0 then baseG ws j else 0))) from by
    have h := World.ownsRow_lit (e := 3) (size := 1) (base := w.heap.size) w (madeCells #[.int .i64 0] n) n (Nat.le_refl _) (by unfold maxLen; omega) (by simp [madeCells])
    rw [made_int] at h
    exact own_fn h (fun j _ => by simp))
  have HA := Lib.hid hA
  obtain ⟨g, hg⟩ : ∃ g, w.heap.size = g := ⟨_, rfl⟩
  have HG := Lib.hid hg
  obtain ⟨S, hS⟩ : ∃ S : Nat → Int, S = fun i => sumZ (fnL i (baseG ws)) := ⟨_, rfl⟩
  have HS := Lib.hid hS
  have hSb : ∀ i : Nat, i ≤ n → 0 ≤ S i ∧ S i ≤ 1600 := fun i hi => by
    have := sum_bd (base_ok hk) i
    rw [hS]
    simp only
    omega
  have HSB := Lib.hid hSb
  have HS1 := Lib.hid (show ∀ i, S (i + 1) = S i + baseG ws i from fun i => by rw [hS]; exact sum_snoc i _)
  have hS0 : S 0 = 0 := by rw [hS]; rfl
  have HSN := Lib.hid (show sumZ (baseL ws) = S n by rw [hS]; unfold baseL; rw [hn])
  clear h hk hn hr hA hS hSb
  go_enter Try.func27, Try.ntmps27
  go_wp2_with fail
  rw [hg] at HO
  clear hmk
  go_loopw [1, 6, 17] (fun a f i wr => ∃ k : Nat, i = .int .i64 k ∧ k ≤ n ∧ a = .int .i64 (room - S k) ∧ f = .int .i64 (rank ws k : Nat) ∧ Hid (wr.ownsRow g 3 1 (.slice (some ⟨g, 0, none⟩) n n) n (numsZ (fnL n (fun j => if j < k then baseG ws j else 0)))) ∧ Hid (Below g w wr)) (fun _ _ i _ => n - (intOf i).toNat)
  case atStart => exact ⟨0, rfl, Nat.zero_le _, by rw [hS0, Int.sub_zero], by rw [rank_zero]; rfl, HO, by rw [← HG.out]; exact HA⟩
  case round =>
    obtain ⟨k, rfl, hkn, rfl, rfl, HOk, HB⟩ := hrel
    have hsb := HSB.out k hkn
    have hs1 := hsb.1
    have hs2 := hsb.2
    have hrk := rank_le ws k
    by_cases hlt : k < n
    · have k1 : (k : Int) < n := by omega
      have hkl : k < ws.length := by rw [HN.out]; exact hlt
      obtain ⟨b, off, rfl, hc⟩ := (HH.out.below (by have := HB.out; rw [← HG.out] at this; exact this)).cell hkl
      rw [← wAt_at hkl] at hc
      obtain ⟨hcell, hfz⟩ := own_cell HOk.out hlt
      rw [if_neg (by omega)] at hcell
      have HLT := Lib.hid hlt
      have HKL := Lib.hid hkl
      have hw := wAt_ok HK.out k
      have HBM := Lib.hid (base_max HK.out k)
      have hbk := base_ok HK.out k
      have HSK := Lib.hid (HS1.out k)
      have HST := Lib.hid (own_fn (own_set HOk.out k (baseG ws k)) (z' := fun j => if j < k + 1 then baseG ws j else 0) (fun j hj => by
        by_cases e : j = k
        · subst e; simp
        · simp only [if_neg e]
          by_cases h : j < k
          · rw [if_pos h, if_pos (by omega)]
          · rw [if_neg h, if_neg (by omega)]))
      have HBS := Lib.hid (HB.out.setCell (p := ⟨g, k, none⟩) (Nat.le_refl _) (.int .i64 (baseG ws k)))
      have hcell2 := (own_cell HST.out hlt).1
      rw [if_pos (by omega)] at hcell2
      have HRF := Lib.hid (show wAt ws k = 0 → rank ws (k + 1) = rank ws k + 1 from rank_free hkl)
      have HRX := Lib.hid (show wAt ws k ≠ 0 → rank ws (k + 1) = rank ws k from rank_fixed hkl)
      obtain ⟨x, hx⟩ : ∃ x, wAt ws k = x := ⟨_, rfl⟩
      obtain ⟨y, hy⟩ : ∃ y, baseG ws k = y := ⟨_, rfl⟩
      obtain ⟨t, ht⟩ : ∃ t, S k = t := ⟨_, rfl⟩
      obtain ⟨q, hq⟩ : ∃ q, rank ws k = q := ⟨_, rfl⟩
      rw [hx] at hc hw HBM HRF HRX
      rw [hy] at HBM hbk HSK HST HBS hcell2
      rw [ht] at hs1 hs2 HSK ⊢
      rw [hq] at hrk HRF HRX ⊢
      have x1 := hw.1
      have x2 := hw.2
      have y1 := hbk.1
      have y2 := hbk.2
      clear hsb hlt hkl hw hbk hx hy ht hq
      by_cases hz : x = 0
      · subst hz
        obtain rfl : y = 1 := by have := HBM.out; omega
        have HRQ := Lib.hid (HRF.out rfl)
        go_wp2_with fail
        go_roundw
        case measure => have := HLT.out; simp [intOf]; omega
        case rel => exact ⟨k + 1, by go_num, HLT.out, by rw [HSK.out]; congr 1; omega, by rw [HRQ.out]; go_num, HST, HBS⟩
      · have hzb : (x == 0) = false := by simpa using hz
        have hx1 : ¬ x < 1 := by omega
        obtain rfl : y = x := by have := HBM.out; omega
        have HRQ := Lib.hid (HRX.out hz)
        clear hz
        go_wp2_with fail
        go_roundw
        case measure => have := HLT.out; simp [intOf]; omega
        case rel => exact ⟨k + 1, by go_num, HLT.out, by rw [HSK.out]; congr 1; omega, by rw [HRQ.out], HST, HBS⟩
    · obtain rfl : k = n := by omega
      have hzk : ¬ (k : Int) < k := by omega
      have hbl : fnL k (fun j => if j < k then baseG ws j else 0) = baseL ws := by
        unfold baseL
        rw [HN.out]
        exact fnL_eq fun j hj => by rw [if_pos hj]
      have hO2 := HOk.out
      rw [hbl] at hO2
      have hll : (baseL ws).length = k := by unfold baseL; rw [fnL_len]; exact HN.out
      have HWL := Lib.hid (show (widthsM ws room).length = k by rw [widthsM_len]; exact HN.out)
      by_cases hneg : room - S k < 0
      · have HWM := Lib.hid (show widthsM ws room = narrowN (S k - room).toNat (baseL ws) by unfold widthsM; rw [HSN.out, if_pos (by omega)])
        obtain ⟨c, hc⟩ : ∃ c : Nat, S k - room = c := ⟨(S k - room).toNat, by omega⟩
        have hcn : (S k - room).toNat = c := by omega
        have hng : -(room - S k) = (c : Int) := by omega
        rw [hcn] at HWM
        have HNP := Lib.hid (narrow_pro (B := g) (baseL ws) (.slice (some ⟨g, 0, none⟩) k k) c wr (by rw [hll]; exact hO2) (by rw [hll]; exact h0) (by omega) (fun x hx => by
          unfold baseL fnL at hx
          obtain ⟨j, _, rfl⟩ := List.mem_map.1 hx
          have := base_ok HK.out j
          omega))
        rw [hll] at HNP
        have HCN := Lib.hid hcn
        obtain ⟨t, ht⟩ : ∃ t, S k = t := ⟨_, rfl⟩
        rw [ht] at hneg hs1 hs2 hng ⊢
        clear hlt hsb hbl hO2 hll hc hcn ht
        go_wp2_with fail
        refine HNP.out.mono ?_
        rintro e w4 ⟨rfl, ho4, hb4⟩
        have HO4 := Lib.hid ho4
        have HB4 := Lib.hid (HB.out.trans hb4)
        clear ho4 hb4
        go_wp2_with fail
        go_ret
        exact ⟨_, rfl, by rw [HWM.out, HG.out, narrowN_len, show (baseL ws).length = k by unfold baseL; rw [fnL_len]; exact HN.out]; exact HO4.out, by rw [HG.out]; exact HB4.out⟩
      · obtain ⟨C, hC⟩ : ∃ C : Nat, room - S k = C := ⟨(room - S k).toNat, by omega⟩
        have HWM := Lib.hid (show widthsM ws room = fnL k (dealG ws (freeN ws) C) by unfold widthsM; rw [HSN.out, if_neg (by omega), hC, HN.out]; rfl)
        have hC1 : C ≤ 200 := by omega
        obtain ⟨f, hf⟩ : ∃ f, freeN ws = f := ⟨_, rfl⟩
        have hf2 : rank ws k = f := by rw [← hf]; unfold freeN; rw [HN.out]
        rw [hf] at HWM
        have HFR := Lib.hid hf
        have hf8 : f ≤ 8 := by rw [← hf2]; have := rank_le ws k; omega
        have HO3 := Lib.hid (own_fn HOk.out (z' := fun j => if j < 0 then dealG ws f C j else baseG ws j) (fun j hj => by rw [if_pos hj, if_neg (by omega)]))
        rw [hC, hf2]
        clear hlt hsb hbl hO2 hll hC hf hf2 hneg
        go_wp2_with fail
        go_loopw [1, 6, 47] (fun a fv i wr => ∃ j : Nat, i = .int .i64 j ∧ j ≤ k ∧ a = .int .i64 (leftN f C (rank ws j) : Nat) ∧ fv = .int .i64 (f - rank ws j : Nat) ∧ Hid (wr.ownsRow g 3 1 (.slice (some ⟨g, 0, none⟩) k k) k (numsZ (fnL k (fun m => if m < j then dealG ws f C m else baseG ws m)))) ∧ Hid (Below g w wr)) (fun _ _ i _ => k - (intOf i).toNat)
        case atStart => exact ⟨0, rfl, Nat.zero_le _, by rw [rank_zero, left_zero], by rw [rank_zero]; rfl, HO3, HB⟩
        case round =>
          obtain ⟨j, rfl, hjn, rfl, rfl, HOj, HBj⟩ := hrel
          by_cases hlt : j < k
          · have j1 : (j : Int) < k := by omega
            have hjl : j < ws.length := by rw [HN.out]; exact hlt
            obtain ⟨b, off, rfl, hc⟩ := (HH.out.below (by have := HBj.out; rw [← HG.out] at this; exact this)).cell hjl
            rw [← wAt_at hjl] at hc
            obtain ⟨hcell, hfz⟩ := own_cell HOj.out hlt
            rw [if_neg (by omega)] at hcell
            have HLT := Lib.hid hlt
            have hw := wAt_ok HK.out j
            by_cases hz : wAt ws j = 0
            · have hrl := rank_lt hjl hz
              rw [HFR.out] at hrl
              have hrn := rank_free hjl hz
              have hgv := left_give (c := C) hrl
              have hln := left_next (c := C) hrl
              have hgl := give_le f C (rank ws j)
              have hll := left_le f C (rank ws j)
              have hbase : baseG ws j = 1 := by unfold baseG one; rw [if_pos hz]
              have hdl : dealG ws f C j = 1 + (give f C (rank ws j) : Nat) := by unfold dealG; rw [if_pos hz]
              have HST := Lib.hid (own_fn (own_set HOj.out j (1 + (give f C (rank ws j) : Nat))) (z' := fun m => if m < j + 1 then dealG ws f C m else baseG ws m) (fun m hm => by
                by_cases e : m = j
                · subst e; simp [hdl]
                · simp only [if_neg e]
                  by_cases h : m < j
                  · rw [if_pos h, if_pos (by omega)]
                  · rw [if_neg h, if_neg (by omega)]))
              have HBS := Lib.hid (HBj.out.setCell (p := ⟨g, j, none⟩) (Nat.le_refl _) (.int .i64 (1 + (give f C (rank ws j) : Nat))))
              rw [hz] at hc
              rw [hbase] at hcell
              have HRN := Lib.hid hrn
              have HLN := Lib.hid hln
              obtain ⟨q, hq⟩ : ∃ q, rank ws j = q := ⟨_, rfl⟩
              rw [hq] at HRN HLN hrl hgv hgl hll HST HBS ⊢
              obtain ⟨L, hL⟩ : ∃ L, leftN f C q = L := ⟨_, rfl⟩
              obtain ⟨G, hG⟩ : ∃ G, give f C q = G := ⟨_, rfl⟩
              obtain ⟨m, hm⟩ : ∃ m, f - q = m := ⟨_, rfl⟩
              rw [hL, hG] at hgv HLN
              rw [hL] at hll ⊢
              rw [hG] at hgl HST HBS
              rw [hm] at hgv ⊢
              have hm8 : m ≤ 8 := by omega
              have hm0 : 0 < m := by omega
              have hL2 : L ≤ 200 := by omega
              have hG2 : G ≤ 201 := by omega
              obtain ⟨G1, L1, m1, e1, e5, e6, e7, hG1, hL1, hm1⟩ := share_nums hL2 hm0 hm8 hG2 hgv HLN.out.2
              have hm0i : (0 : Int) < m := Int.natCast_pos.2 hm0
              have hmne : (m : Int) ≠ 0 := Int.ne_of_gt hm0i
              have HL1 := Lib.hid hL1
              have HM1 := Lib.hid hm1
              have hGL : G ≤ L := HLN.out.2
              have E1 := Lib.hid e1
              have E5' := Lib.hid hG1
              have E6' := Lib.hid (show (L : Int) - G = (L1 : Int) by rw [← hL1]; omega)
              have E7' := Lib.hid (show (m : Int) - 1 = (m1 : Int) by rw [← hm1]; omega)
              have E5 := Lib.hid e5
              have E6 := Lib.hid e6
              have E7 := Lib.hid e7
              clear hG1 hL1 hm1 e1 e5 e6 e7 hgv
              have HM := Lib.hid hm
              clear hw hz hrn hln hbase hdl hq hL hG hm hjl
              go_upto_region 19 with fail
              rw [E1.out]
              go_wp2_with fail
              go_roundw
              case measure => have := HLT.out; simp [intOf]; omega
              case rel => exact ⟨j + 1, by go_num, HLT.out, by rw [HRN.out, ← HLN.out.1, HL1.out, E6'.out], by rw [HRN.out, show f - (q + 1) = m - 1 by have := HM.out; omega, HM1.out, E7'.out], HST, HBS⟩
            · have hrn := rank_fixed hjl hz
              have hzb : (wAt ws j == 0) = false := by simpa using hz
              have HRN := Lib.hid hrn
              have HOJ := Lib.hid (own_fn HOj.out (z' := fun m => if m < j + 1 then dealG ws f C m else baseG ws m) (fun m hm => by
                by_cases e : m = j
                · subst e
                  rw [if_neg (by omega), if_pos (by omega)]
                  unfold dealG baseG one
                  rw [if_neg hz, if_neg hz]
                · by_cases h : m < j
                  · rw [if_pos h, if_pos (by omega)]
                  · rw [if_neg h, if_neg (by omega)]))
              clear hz hrn hw hjl
              go_wp2_with fail
              go_roundw
              case measure => have := HLT.out; simp [intOf]; omega
              case rel => exact ⟨j + 1, by go_num, HLT.out, by rw [HRN.out], by rw [HRN.out], HOJ, HBj⟩
          · obtain rfl : j = k := by omega
            have hzj : ¬ (j : Int) < j := by omega
            have HFL := Lib.hid (own_fn HOj.out (z' := dealG ws f C) (fun m hm => by rw [if_pos hm]))
            clear hlt
            go_wp2_with fail
            go_ret
            exact ⟨_, rfl, by rw [HWL.out, HWM.out, HG.out]; exact HFL.out, by rw [HG.out]; exact HBj.out⟩
end Go.Proofs.Ytadecjjbpoaooaa.Tb
