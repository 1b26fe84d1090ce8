/- The texts that the laws of layout stand on, part 25. -/
import Derived.Test.YtjohhahfpgfjdaaGreatDoorK3
import Derived.Test.YtjohhahfpgfjdaaGreatDoorK5
import Derived.Test.YtjohhahfpgfjdaaGreatDoorK24
import Derived.Lib.Strings
section
namespace Go.Proofs.YtjohhahfpgfjdaaGreatDoor.Tb
open Go.RowKit Go.Maps
set_option linter.unusedVariables false
set_option linter.unusedSimpArgs false
theorem standF_cons (e : Int) (c : Int × Int) (cs : List (Int × Int)) : standF e (c :: cs) = (within c.2 1 200 && within c.1 e (200 - c.2) && standF (c.1 + c.2) cs) := rfl
set_option maxRecDepth 100000 in
set_option maxHeartbeats 2000000 in
theorem stand_pro {P : Nat → Prop} (cs : List (Int × Int)) (v : Value) (w : World) (h : RdC P w v cs) : Calls Tryz.prog 125 #[v] w (SaysL (.bool (standF 0 cs)) w) := by
  obtain ⟨pa, cap, rfl, h1, h2⟩ := sliceC h
  have HH := Lib.hid h
  obtain ⟨n, hn⟩ : ∃ n, cs.length = n := ⟨_, rfl⟩
  have HN := Lib.hid hn
  rw [hn] at HH h1 ⊢
  have hn62 : n ≤ 9223372036854775807 := by omega
  clear h hn h1
  go_enter Tryz.func125, Tryz.ntmps125
  go_wp2_with fail
  go_loopw [3, 8] (fun e i wr => ∃ (k : Nat) (d : Int), i = .int .i64 k ∧ k ≤ n ∧ e = .int .i64 d ∧ 0 ≤ d ∧ d ≤ 200 ∧ Hid (standF 0 cs = standF d (cs.drop k)) ∧ Hid (Below w.heap.size w wr)) (fun _ i _ => n - (intOf i).toNat)
  case atStart => exact ⟨0, 0, rfl, Nat.zero_le _, rfl, by omega, by omega, Lib.hid (by rw [List.drop_zero]), Lib.hid (Below.refl _ _)⟩
  case round =>
    obtain ⟨k, d, rfl, hk, rfl, hd0, hd2, HS, HB⟩ := hrel
    by_cases hlt : k < n
    · have hkl : k < cs.length := by rw [HN.out]; exact hlt
      obtain ⟨b, off, rfl, _, c0, c1⟩ := (HH.out.below HB.out).cell hkl
      have hd := List.drop_eq_getElem_cons hkl
      obtain ⟨c, hc⟩ : ∃ c, cs[k] = c := ⟨_, rfl⟩
      rw [hc] at c0 c1 hd
      have hS := HS.out
      rw [hd, standF_cons] at hS
      have HSE := Lib.hid hS
      have HB1 := Lib.hid (HB.out.trans ((below_box wr (.cells #[.int .i64 c.1, .int .i64 c.2] 172)).mono HB.out.size))
      have k1 : (k : Int) < n := by omega
      have HLT := Lib.hid hlt
      have HW1 := Lib.hid (within_pro c.2 1 200)
      have HW2 := Lib.hid (within_pro c.1 d (200 - c.2))
      clear hc hlt hd hS
      by_cases hw : 1 ≤ c.2 ∧ c.2 ≤ 200
      · have hwt : within c.2 1 200 = true := decide_eq_true hw
        rw [hwt] at HW1 HSE
        have w1 := hw.1
        have w2 := hw.2
        by_cases ha : d ≤ c.1 ∧ c.1 ≤ 200 - c.2
        · have hat : within c.1 d (200 - c.2) = true := decide_eq_true ha
          rw [hat] at HW2 HSE
          have a1 := ha.1
          have a2 := ha.2
          clear hw hwt ha hat
          go_wp2_with fail
          refine (HW1.out _).mono ?_
          rintro e w2 ⟨rfl, rfl⟩
          go_wp2_with fail
          refine (HW2.out _).mono ?_
          rintro e w2 ⟨rfl, rfl⟩
          go_wp2_with fail
          go_roundw
          case measure => have := HLT.out; simp [intOf]; omega
          case rel => exact ⟨k + 1, c.1 + c.2, by go_num, HLT.out, rfl, by omega, by omega, Lib.hid (by rw [HSE.out]; rfl), HB1⟩
        · have hat : within c.1 d (200 - c.2) = false := decide_eq_false ha
          rw [hat] at HW2 HSE
          clear hw hwt ha hat
          go_wp2_with fail
          refine (HW1.out _).mono ?_
          rintro e w2 ⟨rfl, rfl⟩
          go_wp2_with fail
          refine (HW2.out _).mono ?_
          rintro e w2 ⟨rfl, rfl⟩
          go_wp2_with fail
          go_ret
          exact ⟨by rw [HSE.out]; rfl, HB1.out⟩
      · have hwt : within c.2 1 200 = false := decide_eq_false hw
        rw [hwt] at HW1 HSE
        clear hw hwt
        go_wp2_with fail
        refine (HW1.out _).mono ?_
        rintro e w2 ⟨rfl, rfl⟩
        go_wp2_with fail
        go_ret
        exact ⟨by rw [HSE.out]; rfl, HB1.out⟩
    · obtain rfl : k = n := by omega
      have hzk : ¬ (k : Int) < k := by omega
      have HF := Lib.hid (show standF 0 cs = true by rw [HS.out, List.drop_eq_nil_of_le (by rw [HN.out]; exact Nat.le_refl _)]; rfl)
      clear hlt
      go_wp2_with fail
      go_ret
      exact ⟨by rw [HF.out]; rfl, HB.out⟩
def RowPost (cs : List (Int × Int)) (fs : List (List Gl)) (w : World) (e : Ending) (w' : World) : Prop := ∃ v, e = .returned (.tuple #[v, .int .i64 (rowE cs fs)]) ∧ RdL (w.heap.size ≤ ·) w' v (rowL cs fs) ∧ Below w.heap.size w w'
theorem row_bad {cs : List (Int × Int)} {fs : List (List Gl)} {w w' : World} {x : Int} (h : rowE cs fs = x) (hx : x ≠ 0) (hb : Below w.heap.size w w') : RowPost cs fs w (.returned (.tuple #[.slice none 0 0, .int .i64 x])) w' := by
  have e : rowL cs fs = [] := by unfold rowL; rw [h, if_neg hx]
  exact ⟨.slice none 0 0, by rw [h], by rw [e]; exact ⟨none, 0, rfl, Nat.le_refl _, Nat.zero_le _, fun j hj => absurd hj (by simp)⟩, hb⟩
/-- The row of which k columns are done. -/
def RowAt (cs : List (Int × Int)) (fs : List (List Gl)) (k : Nat) (d : Int) (rows : List (List Gl)) : Prop :=
  0 ≤ d ∧ d ≤ 200 ∧ standF d (cs.drop k) = true ∧ (∀ r ∈ rows, LineOk d r) ∧ rowF [] cs fs = rowF rows (cs.drop k) (fs.drop k) ∧ errF cs fs = errF (cs.drop k) (fs.drop k) ∧ rows.length * 48 ≤ 140737488355328
set_option maxRecDepth 100000 in
set_option maxHeartbeats 4000000 in
theorem row_pro {P Q : Nat → Prop} (cs : List (Int × Int)) (fs : List (List Gl)) (v u : Value) (w : World) (h : RdC P w v cs) (hf : RdL Q w u fs) (hl : ∀ f ∈ fs, (f.length + 1) * 48 ≤ 140737488355328) :
    Calls Tryz.prog 101 #[v, u] w (RowPost cs fs w) := by
  obtain ⟨pa, cap, rfl, h1, h2⟩ := sliceC h
  obtain ⟨pf, cf, rfl, h3, h4⟩ := hf.form
  unfold maxLen at h4
  have HST := Lib.hid (stand_pro cs _ w h)
  have HC := Lib.hid h
  have HF := Lib.hid hf
  have HL := Lib.hid hl
  have HWN := Lib.hid (within_pro cs.length 1 8 w)
  obtain ⟨n, hn⟩ : ∃ n, cs.length = n := ⟨_, rfl⟩
  obtain ⟨m, hm⟩ : ∃ m, fs.length = m := ⟨_, rfl⟩
  have HN := Lib.hid hn
  have HM := Lib.hid hm
  rw [hn] at HC HST HWN h1 ⊢
  rw [hm] at HF h3 ⊢
  have n62 : n ≤ 9223372036854775807 := by omega
  have m62 : m ≤ 9223372036854775807 := by omega
  clear h hf hl hn hm h1 h3
  by_cases hmn : m = n
  · obtain rfl : m = n := hmn
    have t0 : ((m : Int) != (m : Int)) = false := by simp
    by_cases h8 : 1 ≤ m ∧ m ≤ 8
    · have hwt : within m 1 8 = true := decide_eq_true (by omega)
      rw [hwt] at HWN
      obtain ⟨z, hz⟩ : ∃ z, standF 0 cs = z := ⟨_, rfl⟩
      rw [hz] at HST
      cases z with
      | false =>
        have HE := Lib.hid (show rowE cs fs = 1 by unfold rowE; rw [if_pos (by rw [hz]; exact .inr (.inr (.inr rfl)))])
        clear h8 hwt hz
        go_enter Tryz.func101, Tryz.ntmps101
        go_wp2_with fail
        refine HWN.out.mono ?_
        rintro e w1 ⟨rfl, rfl⟩
        go_wp2_with fail
        refine HST.out.mono ?_
        rintro e w1 ⟨rfl, hb⟩
        have HB := Lib.hid hb
        clear hb
        go_wp2_with fail
        go_ret2
        exact row_bad HE.out (by omega) HB.out
      | true =>
        have HEE := Lib.hid (show rowE cs fs = errF cs fs by
          unfold rowE
          rw [if_neg]
          rintro (h | h | h | h)
          · exact h (by rw [HN.out, HM.out])
          · rw [HN.out] at h; omega
          · rw [HN.out] at h; omega
          · rw [hz] at h; cases h)
        have HAT := Lib.hid (show RowAt cs fs 0 0 [] from ⟨by omega, by omega, by rw [List.drop_zero]; exact hz, fun r hr => absurd hr (by simp), by rw [List.drop_zero, List.drop_zero], by rw [List.drop_zero, List.drop_zero], by simp⟩)
        clear hwt hz
        go_enter Tryz.func101, Tryz.ntmps101
        go_wp2_with fail
        refine HWN.out.mono ?_
        rintro e w1 ⟨rfl, rfl⟩
        go_wp2_with fail
        refine HST.out.mono ?_
        rintro e w1 ⟨rfl, hb⟩
        have HB := Lib.hid hb
        clear hb
        go_wp2_with fail
        go_loopw [6, 29] (fun rv i wr => ∃ (k : Nat) (d : Int) (rows : List (List Gl)) (vs : List Value), i = .int .i64 k ∧ k ≤ m ∧ Hid (RowAt cs fs k d rows) ∧ Hid (OwnR w.heap.size wr rv rows vs) ∧ Hid (Below w.heap.size w wr)) (fun _ i _ => m - (intOf i).toNat)
        case atStart => exact ⟨0, 0, [], [], rfl, Nat.zero_le _, HAT, Lib.hid (OwnL.nil _ _ _), HB⟩
        case round =>
          obtain ⟨k, d, rows, vs, rfl, hk, HA, HR, HBr⟩ := hrel
          by_cases hlt : k < m
          · have hkc : k < cs.length := by rw [HN.out]; exact hlt
            have hkf : k < fs.length := by rw [HM.out]; exact hlt
            obtain ⟨b, off, rfl, _, c0, c1⟩ := (HC.out.below HBr.out).cell hkc
            obtain ⟨b2, o2, p2, q2, rfl, _, l0, _, _, hx⟩ := (HF.out.below HBr.out).at_ hkf
            have hdc := List.drop_eq_getElem_cons hkc
            have hdf := List.drop_eq_getElem_cons hkf
            have hxl := HL.out _ (List.getElem_mem hkf)
            obtain ⟨c, hc⟩ : ∃ c, cs[k] = c := ⟨_, rfl⟩
            obtain ⟨x, hxx⟩ : ∃ x, fs[k] = x := ⟨_, rfl⟩
            rw [hc] at c0 c1 hdc
            rw [hxx] at l0 hx hdf hxl
            obtain ⟨a1, a2, a3, a4, a5, a6, a7⟩ := HA.out
            rw [hdc, standF_cons] at a3
            rw [hdc, hdf] at a5 a6
            simp only [rowF] at a5
            simp only [errF] at a6
            have hA := below_box wr (.cells #[.int .i64 c.1, .int .i64 c.2] 172)
            have hX := heap_alloc_new wr (.cells #[.int .i64 c.1, .int .i64 c.2] 172)
            have HXG := Lib.hid (hx.below hA)
            have HRA := Lib.hid (HR.out.below hA)
            have HBA := Lib.hid (HBr.out.trans (hA.mono HBr.out.size))
            have HA3 := Lib.hid a3
            have HA4 := Lib.hid a4
            have HA5 := Lib.hid a5
            have HA6 := Lib.hid a6
            have HA7 := Lib.hid a7
            have HXL := Lib.hid hxl
            have k1 : (k : Int) < m := by omega
            have HLT := Lib.hid hlt
            have f2 := (hA.cell (p := ⟨b2, o2 + k, none⟩) (cellInL l0)).trans l0
            obtain ⟨W1, hW1⟩ : ∃ W1, wr.alloc (.cells #[.int .i64 c.1, .int .i64 c.2] 172) = W1 := ⟨_, rfl⟩
            rw [hW1] at hX HXG HRA HBA f2
            obtain ⟨e0, e1⟩ : W1.cell? ⟨wr.heap.size, 0, none⟩ = some (.int .i64 c.1) ∧ W1.cell? ⟨wr.heap.size, 1, none⟩ = some (.int .i64 c.2) := by
              refine ⟨?_, ?_⟩ <;> rw [cell_of_row _ _ _ _ _ _ hX] <;> rfl
            obtain ⟨z, hz⟩ : ∃ z, x.length = z := ⟨_, rfl⟩
            rw [hz] at f2 HXG l0
            have HZ := Lib.hid hz
            have HX := Lib.hid hX
            have HS0 := Lib.hid (show W1.drew.cell? ⟨b2, o2 + k, none⟩ = some (.slice p2 z q2) ∧ W1.drew.cell? ⟨wr.heap.size, 1, none⟩ = some (.int .i64 c.2) ∧ Below W1.heap.size W1 W1.drew from ⟨f2, e1, (Below.refl _ _).drew⟩)
            have HXLL := Lib.hid (show (x.length + 1) * 24 ≤ 140737488355328 by omega)
            clear hc hxx hx hdc hdf hxl a3 a4 a5 a6 a7 hA hlt hz hX
            go_upto_region 7 with fail
            go_region_held3 (fun w' => w'.cell? ⟨b2, o2 + k, none⟩ = some (.slice p2 z q2) ∧ w'.cell? ⟨wr.heap.size, 1, none⟩ = some (.int .i64 c.2) ∧ Below W1.heap.size W1 w')
              (first | exact HS0.out | exact ⟨(h8.cell (p := ⟨b2, o2 + k, none⟩) (cellInL (by assumption : _ ∧ _ ∧ Below W1.heap.size W1 _).1)).trans (by assumption : _ ∧ _ ∧ Below W1.heap.size W1 _).1, (h8.cell (p := ⟨wr.heap.size, 1, none⟩) (cellInL (by assumption : _ ∧ _ ∧ Below W1.heap.size W1 _).2.1)).trans (by assumption : _ ∧ _ ∧ Below W1.heap.size W1 _).2.1, (by assumption : _ ∧ _ ∧ Below W1.heap.size W1 _).2.2.trans (h8.mono (by assumption : _ ∧ _ ∧ Below W1.heap.size W1 _).2.2.size)⟩ | assumption)
              ((first
                | (go_at_call 92; refine (fill_pro c.2 x _ _ (HXG.out.below ((by assumption : _ ∧ _ ∧ Below W1.heap.size W1 _).2.2)) HXLL.out).mono ?_; rintro e w8 ⟨v8, rfl, ho8, h8⟩)))
            have hh : Below W1.heap.size W1 w8 := (by assumption : _ ∧ _ ∧ Below W1.heap.size W1 w8).2.2
            have g0 := (hh.cell (p := ⟨wr.heap.size, 0, none⟩) (cellInL e0)).trans e0
            have hB8 := HBA.out.trans (hh.mono HBA.out.size)
            obtain ⟨E, hE⟩ : ∃ E, fillE c.2 x = E := ⟨_, rfl⟩
            rw [hE] at HA6
            by_cases h0 : E = 0
            · subst h0
              have hf : fillL c.2 x = fillM c.2 x := by unfold fillL; rw [if_pos hE]
              rw [hf] at ho8
              have hR8 := HRA.out.below hh
              have hown : ∀ b, u6.ownBlock = some b → b < W1.heap.size := fun b hb => (own_base HRA.out.row hb).2
              have hL8 : RdL (fun b => u6.ownBlock ≠ some b) w8 v8 (fillM c.2 x) := ho8.imp fun b _ hb e => by
                have := hown b e
                have hb' : W1.heap.size ≤ b := hb
                omega
              have hs := HA3.out
              rw [Bool.and_eq_true, Bool.and_eq_true] at hs
              have s1 : 1 ≤ c.2 ∧ c.2 ≤ 200 := of_decide_eq_true hs.1.1
              have s2 : d ≤ c.1 ∧ c.1 ≤ 200 - c.2 := of_decide_eq_true hs.1.2
              have s3 := hs.2
              have hlen := fill_len hE
              have hxl := HXL.out
              have h7 := HA7.out
              have HBP := Lib.hid (beside_pro (B := w.heap.size) rows (fillM c.2 x) u6 v8 vs c.1 d c.2 w8 hR8 hB8.size hL8 HA4.out (fill_lines hE) a1 s2.1 (by omega) (by omega) s1.2 (by omega))
              have HAT2 := Lib.hid (show RowAt cs fs (k + 1) (c.1 + c.2) (putB rows (fillM c.2 x) c.1) from ⟨by omega, by omega, s3, putB_ok HA4.out a1 s2.1 (fill_lines hE) (by omega), HA5.out, by rw [HA6.out, if_pos rfl], by unfold putB; rw [putK_len]; omega⟩)
              rw [hE]
              have HB8 := Lib.hid hB8
              clear hh hB8 hf hR8 hown hL8 hs s1 s2 s3 hlen hxl h7 ho8 hE h8
              go_wp2_with fail
              refine HBP.out.mono ?_
              rintro e w9 ⟨v9, vs9, rfl, hO9, hb9⟩
              have HO9 := Lib.hid hO9
              have HB9 := Lib.hid (HB8.out.trans hb9)
              clear hO9 hb9
              go_wp2_with fail
              go_roundw
              case measure => have := HLT.out; simp [intOf]; omega
              case rel => exact ⟨k + 1, c.1 + c.2, _, vs9, by go_num, HLT.out, HAT2, HO9, HB9⟩
            · have tE : (E != 0) = true := by simp [h0]
              have HEC := Lib.hid (show errF cs fs = E by rw [HA6.out, if_neg h0])
              have HB8 := Lib.hid hB8
              rw [hE]
              clear hh hB8 ho8 hE h8
              go_wp2_with fail
              go_ret2
              exact row_bad (HEE.out.trans HEC.out) h0 HB8.out
          · obtain rfl : k = m := by omega
            have hzk : ¬ (k : Int) < k := by omega
            obtain ⟨_, _, _, _, a5, a6, _⟩ := HA.out
            have e1 : cs.drop k = [] := List.drop_eq_nil_of_le (by rw [HN.out]; exact Nat.le_refl _)
            rw [e1] at a5 a6
            have HE0 := Lib.hid (show rowE cs fs = 0 by rw [HEE.out, a6]; rfl)
            have HRL := Lib.hid (show rowL cs fs = rows by unfold rowL; rw [if_pos HE0.out, a5]; cases fs.drop k <;> rfl)
            clear hlt a5 a6 e1
            go_wp2_with fail
            go_ret2
            exact ⟨u6, by rw [HE0.out]; rfl, by rw [HRL.out]; exact HR.out.rd (fun b hb _ => hb) (fun b _ hb => hb.1), HBr.out⟩
    · have hwt : within m 1 8 = false := decide_eq_false (by omega)
      rw [hwt] at HWN
      have HE := Lib.hid (show rowE cs fs = 1 by unfold rowE; rw [if_pos (by rw [HN.out]; omega)])
      clear h8 hwt HST
      go_enter Tryz.func101, Tryz.ntmps101
      go_wp2_with fail
      refine HWN.out.mono ?_
      rintro e w1 ⟨rfl, rfl⟩
      go_wp2_with fail
      go_ret2
      exact row_bad HE.out (by omega) (Below.refl _ _)
  · have t0 : ((m : Int) != (n : Int)) = true := by simp; omega
    have HE := Lib.hid (show rowE cs fs = 1 by unfold rowE; rw [if_pos (by rw [HN.out, HM.out]; exact .inl hmn)])
    clear HST HWN
    go_enter Tryz.func101, Tryz.ntmps101
    go_wp2_with fail
    go_ret2
    exact row_bad HE.out (by omega) (Below.refl _ _)
end Go.Proofs.YtjohhahfpgfjdaaGreatDoor.Tb
end
section
namespace Go.Proofs.YtjohhahfpgfjdaaGreatDoor.Tb
set_option linter.unusedVariables false
set_option linter.unusedSimpArgs false
theorem deal_sum {ws : List Int} (c : Nat) : ∀ m : Nat, m ≤ ws.length → sumZ (fnL m (dealG ws (freeN ws) c)) = sumZ (fnL m (baseG ws)) + ((c : Int) - leftN (freeN ws) c (rank ws m)) ∧ leftN (freeN ws) c (rank ws m) ≤ c
  | 0, _ => by
    rw [rank_zero, left_zero]
    simp [fnL, sumZ]
  | m + 1, h => by
    obtain ⟨ih, hle⟩ := deal_sum (ws := ws) c m (by omega)
    rw [sum_snoc, sum_snoc, ih]
    by_cases h0 : wAt ws m = 0
    · have hr := rank_lt (show m < ws.length by omega) h0
      have hn := left_next (c := c) hr
      rw [rank_free (by omega) h0]
      have e1 : dealG ws (freeN ws) c m = 1 + give (freeN ws) c (rank ws m) := by unfold dealG; rw [if_pos h0]
      have e2 : baseG ws m = 1 := by unfold baseG one; rw [if_pos h0]
      rw [e1, e2]
      omega
    · rw [rank_fixed (by omega) h0]
      have e1 : dealG ws (freeN ws) c m = wAt ws m := by unfold dealG; rw [if_neg h0]
      have e2 : baseG ws m = wAt ws m := by unfold baseG one; rw [if_neg h0]
      rw [e1, e2]
      omega
theorem widF_max (l : List Int) : ∀ i j : Nat, j < i → l.getD j 0 ≤ l.getD (widF l i) 0
  | 0, j, h => absurd h (by omega)
  | i + 1, j, h => by
    have ih := fun h => widF_max l i j h
    unfold widF
    split
    · rename_i h2
      rcases Nat.lt_or_ge j i with h3 | h3
      · have := ih h3; omega
      · rw [show j = i by omega]; omega
    · rename_i h2
      rcases Nat.lt_or_ge j i with h3 | h3
      · exact ih h3
      · rw [show j = i by omega]; omega
theorem narrow1_at (l : List Int) (i : Nat) : (narrow1 l).getD i 0 = if i = widF l l.length ∧ i < l.length then l.getD i 0 - 1 else l.getD i 0 := by
  unfold narrow1
  rw [List.getD_eq_getElem?_getD, List.getElem?_set]
  by_cases h : widF l l.length = i
  · rw [if_pos h]
    by_cases h2 : i < l.length
    · rw [if_pos (by omega), if_pos ⟨h.symm, h2⟩, ← h]; rfl
    · rw [if_neg (by omega), if_neg (fun x => h2 x.2), List.getD_eq_getElem?_getD, List.getElem?_eq_none (by omega)]
  · rw [if_neg h, if_neg (fun x => h x.1.symm), ← List.getD_eq_getElem?_getD]
theorem narrow1_le (l : List Int) (i : Nat) : (narrow1 l).getD i 0 ≤ l.getD i 0 := by
  rw [narrow1_at]; split <;> omega
theorem narrowN_le : ∀ (n : Nat) (l : List Int) (i : Nat), (narrowN n l).getD i 0 ≤ l.getD i 0
  | 0, l, i => Int.le_refl _
  | n + 1, l, i => Int.le_trans (narrowN_le n (narrow1 l) i) (narrow1_le l i)
theorem sum_ones : ∀ l : List Int, (∀ i, i < l.length → l.getD i 0 ≤ 1) → sumZ l ≤ l.length
  | [], _ => by simp [sumZ]
  | x :: l, h => by
    have h0 := h 0 (by simp)
    have ih := sum_ones l fun i hi => by
      have := h (i + 1) (by simpa using hi)
      simpa [List.getD_eq_getElem?_getD] using this
    simp at h0
    simp only [sumZ, List.length_cons]
    omega
theorem narrow1_pos (l : List Int) (h : ∀ i, i < l.length → 1 ≤ l.getD i 0) (hs : (l.length : Int) < sumZ l) : ∀ i, i < (narrow1 l).length → 1 ≤ (narrow1 l).getD i 0 := by
  intro i hi
  rw [narrow1_len] at hi
  rw [narrow1_at]
  split
  · rename_i e
    by_cases h2 : 2 ≤ l.getD i 0
    · omega
    · exfalso
      have := sum_ones l fun j hj => by
        have := widF_max l l.length j hj
        rw [← e.1] at this
        omega
      omega
  · exact h i hi
theorem narrowN_pos : ∀ (n : Nat) (l : List Int), (∀ i, i < l.length → 1 ≤ l.getD i 0) → (l.length : Int) ≤ sumZ l - n → 0 < l.length → ∀ i, i < (narrowN n l).length → 1 ≤ (narrowN n l).getD i 0
  | 0, l, h, _, _ => h
  | n + 1, l, h, hs, h0 => by
    have := narrow1_sum l h0
    exact narrowN_pos n (narrow1 l) (narrow1_pos l h (by omega)) (by rw [narrow1_len]; omega) (by rw [narrow1_len]; exact h0)
theorem baseL_at {ws : List Int} {i : Nat} (h : i < ws.length) : (baseL ws).getD i 0 = baseG ws i := by
  unfold baseL
  rw [List.getD_eq_getElem?_getD, fnL_at? h]; rfl
theorem widths_ok {ws : List Int} (hk : OkWs ws) (hn : 0 < ws.length) {room : Int} (h0 : (ws.length : Int) ≤ room) :
    (∀ i, i < ws.length → 1 ≤ (widthsM ws room).getD i 0 ∧ (0 < wAt ws i → (widthsM ws room).getD i 0 ≤ wAt ws i)) ∧ sumZ (widthsM ws room) ≤ room := by
  have hb1 : ∀ i, i < ws.length → baseG ws i = wAt ws i ∨ wAt ws i = 0 := fun i _ => by
    unfold baseG one
    split
    · exact .inr (by assumption)
    · exact .inl rfl
  have hlen : (baseL ws).length = ws.length := fnL_len _ _
  unfold widthsM
  split
  · rename_i hr
    have hp := narrowN_pos (sumZ (baseL ws) - room).toNat (baseL ws) (fun i hi => by rw [baseL_at (by omega)]; exact (base_ok hk i).1) (by omega) (by omega)
    refine ⟨fun i hi => ⟨hp i (by rw [narrowN_len]; omega), fun hw => ?_⟩, ?_⟩
    · have := narrowN_le (sumZ (baseL ws) - room).toNat (baseL ws) i
      rw [baseL_at hi] at this
      rcases hb1 i hi with h | h
      · omega
      · omega
    · rw [narrowN_sum _ _ (by omega)]; omega
  · rename_i hr
    refine ⟨fun i hi => ?_, ?_⟩
    · rw [List.getD_eq_getElem?_getD, fnL_at? hi]
      show 1 ≤ dealG ws _ _ i ∧ (0 < wAt ws i → dealG ws _ _ i ≤ wAt ws i)
      unfold dealG
      have := (wAt_ok hk i).1
      split
      · exact ⟨by omega, fun h => by omega⟩
      · exact ⟨by omega, fun _ => Int.le_refl _⟩
    · obtain ⟨h1, h2⟩ := deal_sum (ws := ws) (room - sumZ (baseL ws)).toNat ws.length (Nat.le_refl _)
      rw [h1]
      show sumZ (baseL ws) + _ ≤ room
      omega
theorem colsE_zero {ws : List Int} {wide : Int} (h : colsE ws wide = 0) : (10 ≤ wide ∧ wide ≤ 200) ∧ (1 ≤ ws.length ∧ ws.length ≤ 8) ∧ OkWs ws := by
  unfold colsE at h
  split at h
  · cases h
  · rename_i h1
    refine ⟨by omega, by omega, okWs_of ?_⟩
    cases e : ws.any (fun w => !okW w)
    · rfl
    · exact absurd (.inr (.inr (.inr (.inr e)))) h1
theorem colsAt_at (gap : Int) : ∀ (l : List Int) (a : Int) (k : Nat) (h : k < (colsAt gap a l).length), (colsAt gap a l)[k] = (a + sumZ (l.take k) + gap * k, l.getD k 0)
  | [], a, k, h => absurd h (by simp [colsAt])
  | w :: l, a, 0, h => by simp [colsAt, sumZ]
  | w :: l, a, k + 1, h => by
    have ih := colsAt_at gap l (a + w + gap) k (by simpa [colsAt] using h)
    have e : (colsAt gap a (w :: l))[k + 1] = (colsAt gap (a + w + gap) l)[k]'(by simpa [colsAt] using h) := rfl
    rw [e, ih]
    simp only [List.take_succ_cons, sumZ, List.getD_cons_succ, Prod.mk.injEq, and_true]
    rw [show ((k + 1 : Nat) : Int) = (k : Int) + 1 by omega, Int.mul_add]
    omega
/-- What TableApart asks of columns. -/
structure Apart (ws : List Int) (wide : Int) (cs : List (Int × Int)) : Prop where
  num : cs.length = ws.length
  le : ws.length ≤ 8
  col : ∀ k (hk : k < cs.length), 1 ≤ cs[k].2 ∧ cs[k].2 ≤ 2000 ∧ -100000 ≤ cs[k].1 ∧ cs[k].1 ≤ 100000 ∧ (0 < wAt ws k → cs[k].2 ≤ wAt ws k)
  nxt : ∀ k (hk : k < cs.length), (if h : k = 0 then 0 else cs[k - 1].1 + cs[k - 1].2) ≤ cs[k].1
  fin : ∀ k (hk : k < cs.length), k + 1 = cs.length → cs[k].1 + cs[k].2 ≤ wide
theorem sum_take_all {l : List Int} {k : Nat} (h : k + 1 = l.length) : sumZ (l.take k) + l.getD k 0 = sumZ l := by
  have e : l.take (k + 1) = l := List.take_of_length_le (by omega)
  have hk : k < l.length := by omega
  rw [List.take_succ_eq_append_getElem hk] at e
  have h2 : sumZ (l.take k ++ [l[k]]) = sumZ l := by rw [e]
  rw [sumZ_app] at h2
  simp only [sumZ] at h2
  rw [List.getD_eq_getElem?_getD, List.getElem?_eq_getElem hk]
  simp only [Option.getD_some]
  omega
theorem apart_of {ws : List Int} {wide : Int} (h : colsE ws wide = 0) : Apart ws wide (colsL ws wide) := by
  obtain ⟨⟨w1, w2⟩, ⟨n1, n2⟩, hk⟩ := colsE_zero h
  have hroom : (ws.length : Int) ≤ roomOf ws.length wide := by unfold roomOf; split <;> omega
  have hr2 : 0 ≤ roomOf ws.length wide ∧ roomOf ws.length wide ≤ 200 := by unfold roomOf; split <;> omega
  obtain ⟨hz, hsum⟩ := widths_ok hk n1 hroom
  have hbd := widths_bd hk n2 hr2.1 hr2.2
  have hg : 0 ≤ gapOf ws.length wide ∧ gapOf ws.length wide ≤ 1 := by unfold gapOf; split <;> omega
  have hfin : roomOf ws.length wide + gapOf ws.length wide * ((ws.length : Int) - 1) ≤ wide := by
    unfold roomOf gapOf
    split
    · omega
    · omega
  obtain ⟨zs, hzs⟩ : ∃ zs, widthsM ws (roomOf ws.length wide) = zs := ⟨_, rfl⟩
  obtain ⟨gap, hgap⟩ : ∃ gap, gapOf ws.length wide = gap := ⟨_, rfl⟩
  have hzl : zs.length = ws.length := by rw [← hzs, widthsM_len]
  rw [hzs] at hz hsum hbd
  rw [hgap] at hg hfin
  have e : colsL ws wide = colsAt gap 0 zs := by unfold colsL colsM; rw [if_pos h, hzs, hgap]
  have hst := sum_take_bd hbd
  rw [e]
  have hlen : (colsAt gap 0 zs).length = ws.length := by rw [colsAt_len, hzl]
  have hgd : ∀ k, k < ws.length → zs.getD k 0 ∈ zs := fun k hk => by
    rw [List.getD_eq_getElem?_getD, List.getElem?_eq_getElem (by omega)]
    exact List.getElem_mem _
  have hgk : ∀ k : Nat, k < ws.length → 0 ≤ gap * k ∧ gap * k ≤ 8 := fun k hk => by
    rcases (show gap = 0 ∨ gap = 1 by omega) with h | h
    · subst h; simp
    · subst h; omega
  refine ⟨hlen, n2, fun k hk => ?_, fun k hk => ?_, fun k hk hl => ?_⟩
  · rw [hlen] at hk
    rw [colsAt_at]
    have h1 := hbd _ (hgd k hk)
    have h2 := hst k (by omega)
    have h3 := hgk k hk
    have h4 := hz k hk
    exact ⟨h4.1, h1.2, by show -100000 ≤ 0 + sumZ (zs.take k) + gap * k; omega, by show 0 + sumZ (zs.take k) + gap * k ≤ 100000; omega, h4.2⟩
  · have hk' := hk
    rw [hlen] at hk'
    split
    · rename_i h0
      subst h0
      rw [colsAt_at]
      simp [sumZ]
    · rename_i h0
      obtain ⟨j, rfl⟩ : ∃ j, k = j + 1 := ⟨k - 1, by omega⟩
      have e1 := colsAt_at gap zs 0 (j + 1) hk
      have e2 := colsAt_at gap zs 0 j (by omega)
      have e3 : (colsAt gap 0 zs)[j + 1 - 1]'(by omega) = (colsAt gap 0 zs)[j]'(by omega) := rfl
      rw [e3, e1, e2]
      show 0 + sumZ (zs.take j) + gap * j + zs.getD j 0 ≤ 0 + sumZ (zs.take (j + 1)) + gap * ((j + 1 : Nat) : Int)
      rw [List.take_succ_eq_append_getElem (show j < zs.length by omega), sumZ_app, List.getD_eq_getElem?_getD, List.getElem?_eq_getElem (show j < zs.length by omega)]
      simp only [sumZ, Option.getD_some]
      rw [show ((j + 1 : Nat) : Int) = (j : Int) + 1 by omega, Int.mul_add]
      omega
  · rw [colsAt_at]
    show 0 + sumZ (zs.take k) + gap * k + zs.getD k 0 ≤ wide
    have := sum_take_all (l := zs) (k := k) (by omega)
    have e3 : (k : Int) = (ws.length : Int) - 1 := by omega
    rw [e3]
    omega
end Go.Proofs.YtjohhahfpgfjdaaGreatDoor.Tb
end
section
namespace Go.Proofs.YtjohhahfpgfjdaaGreatDoor.Tb
open Go
set_option linter.unusedVariables false
set_option linter.unusedSimpArgs false
/-- The signs of lines. -/
def sgs (ls : List (List Gl)) : List Gl := ls.flatten.filter sgn
def sg (s : Fs) : List Gl := (s.out.flatten ++ s.line).filter sgn
def WaitOk (s : Fs) : Prop := ∀ g ∈ s.wait, sgn g = false
theorem bl1_list (c : UInt8) : (bl1 c).toList = [c] := by
  rw [Lib.toList_data]
  rfl
theorem sgn_blank (g : Gl) : sgn (blank g) = false := by
  unfold sgn noS isB blank
  rw [bl1_list]
  rfl
theorem sgn_fit {wide : Int} {g : Gl} (h : sgn g = true) : sgn (fitG wide g) = true := by
  unfold fitG
  split
  · unfold sgn noS isB isT isN
    simp only [bl1_list]
    rfl
  · exact h
theorem sg_end (s : Fs) : sg (endS s) = sg s := by simp [sg, endS]
theorem sg_endU (s : Fs) : sg (endU s) = sg s := by
  unfold endU
  split
  · rfl
  · exact sg_end s
theorem sg_put (s : Fs) {g : Gl} (h : sgn g = true) : sg (putS s g) = sg s ++ [g] := by
  unfold sg putS
  rw [← List.append_assoc, List.filter_append, List.filter_cons_of_pos h]
  rfl
theorem sg_sign (wide : Int) (s : Fs) {g : Gl} (h : sgn g = true) : sg (signS wide s g) = sg s ++ [g] := by
  unfold signS
  split
  · rw [sg_put _ h, sg_end]
  · exact sg_put s h
theorem wait_sign (wide : Int) (s : Fs) (g : Gl) (h : s.wait = []) : (signS wide s g).wait = [] := by
  unfold signS
  split
  · rfl
  · exact h
theorem sg_foldl (wide : Int) : ∀ (w : List Gl) (s : Fs), (∀ g ∈ w, sgn g = true) → s.wait = [] → sg (w.foldl (signS wide) s) = sg s ++ w ∧ (w.foldl (signS wide) s).wait = []
  | [], s, _, hw => ⟨by simp, hw⟩
  | g :: w, s, h, hw => by
    have h0 := h g (by simp)
    obtain ⟨h1, h2⟩ := sg_foldl wide w (signS wide s g) (fun x hx => h x (List.mem_cons_of_mem _ hx)) (wait_sign wide s g hw)
    exact ⟨by rw [List.foldl_cons, h1, sg_sign wide s h0]; simp, h2⟩
theorem room_keep (wide : Int) (s : Fs) (w : List Gl) (h : WaitOk s) : sg (roomS wide s w) = sg s ∧ WaitOk (roomS wide s w) := by
  unfold roomS
  split
  · refine ⟨sg_endU s, ?_⟩
    unfold endU
    split
    · exact h
    · exact fun g hg => absurd hg (by simp [endS])
  · exact ⟨rfl, h⟩
theorem filter_no {l : List Gl} (h : ∀ g ∈ l, sgn g = false) : l.filter sgn = [] := List.filter_eq_nil_iff.2 fun g hg => by simp [h g hg]
theorem sg_laid (s : Fs) (h : WaitOk s) : sg (laidS s) = sg s := by
  unfold sg laidS
  rw [← List.append_assoc, List.filter_append, filter_no h, List.append_nil]
theorem sg_word (wide : Int) (s : Fs) (w : List Gl) (h : WaitOk s) (hw : ∀ g ∈ w, sgn g = true) : sg (wordS wide s w) = sg s ++ w ∧ WaitOk (wordS wide s w) := by
  obtain ⟨r1, r2⟩ := room_keep wide s w h
  obtain ⟨f1, f2⟩ := sg_foldl wide w (laidS (roomS wide s w)) hw rfl
  unfold wordS
  refine ⟨by rw [f1, sg_laid _ r2, r1], ?_⟩
  intro g hg
  rw [f2] at hg
  exact absurd hg (by simp)
theorem sg_step (wide : Int) (s : Fs) (g : Gl) (h : WaitOk s) : sg (stepS wide s g) = sg s ∧ WaitOk (stepS wide s g) := by
  unfold stepS
  split
  · unfold waitS
    split
    · refine ⟨rfl, fun x hx => ?_⟩
      have : x = blank g := by simpa using hx
      rw [this]; exact sgn_blank g
    · exact ⟨rfl, h⟩
  · split
    · unfold tabS
      split
      · refine ⟨?_, fun x hx => absurd hx (by simp)⟩
        unfold sg
        have hn : (List.replicate (stopOf s - wid s.line).toNat (blank g)).filter sgn = [] := filter_no fun x hx => by
          have := (List.mem_replicate.1 hx).2
          rw [this]; exact sgn_blank g
        rw [← List.append_assoc, List.filter_append, hn, List.append_nil]
      · exact ⟨sg_end s, fun x hx => absurd hx (by simp [endS])⟩
    · exact ⟨sg_end s, fun x hx => absurd hx (by simp [endS])⟩
theorem firstW_eq (l : List Gl) : firstW l ++ l.drop (firstW l).length = l := by
  unfold firstW
  induction l with
  | nil => rfl
  | cons g l ih =>
    rw [List.takeWhile_cons]
    split
    · simp only [List.cons_append, List.length_cons, List.drop_succ_cons, ih]
    · rfl
theorem firstW_sgn : ∀ (l : List Gl), ∀ g ∈ firstW l, sgn g = true
  | [], g, h => absurd h (by simp [firstW])
  | x :: l, g, h => by
    unfold firstW at h
    rw [List.takeWhile_cons] at h
    split at h
    · rename_i hx
      rcases List.mem_cons.1 h with e | h
      · rw [e]; exact hx
      · exact firstW_sgn l g h
    · exact absurd h (by simp)
theorem sg_run (wide : Int) : ∀ (n : Nat) (s : Fs) (l : List Gl), l.length ≤ n → WaitOk s → sg (runS wide n s l) = sg s ++ (l.filter sgn).map (fitG wide)
  | 0, s, l, hl, _ => by
    have : l = [] := List.eq_nil_of_length_eq_zero (by omega)
    subst this
    simp [runS]
  | n + 1, s, [], _, _ => by simp [runS]
  | n + 1, s, g :: l, hl, h => by
    unfold runS
    split
    · rename_i hg
      have hp := firstW_pos (l := l) hg
      obtain ⟨w1, w2⟩ := sg_word wide s ((firstW (g :: l)).map (fitG wide)) h (fun x hx => by
        obtain ⟨y, hy, rfl⟩ := List.mem_map.1 hx
        exact sgn_fit (firstW_sgn _ y hy))
      rw [sg_run wide n _ _ (by rw [List.length_drop]; simp only [List.length_cons] at hl ⊢; omega) w2, w1]
      have e : (g :: l).filter sgn = firstW (g :: l) ++ ((g :: l).drop (firstW (g :: l)).length).filter sgn := by
        conv => lhs; rw [← firstW_eq (g :: l)]
        rw [List.filter_append, List.filter_eq_self.2 (firstW_sgn _)]
      rw [e, List.map_append, List.append_assoc]
    · rename_i hg
      obtain ⟨s1, s2⟩ := sg_step wide s g h
      rw [sg_run wide n _ l (by simpa using hl) s2, s1, List.filter_cons_of_neg hg]
/-- Nothing is lost: the lines' signs are the flow's, what is too wide another sign. -/
theorem fill_keeps (wide : Int) (l : List Gl) : sgs (fillM wide l) = (l.filter sgn).map (fitG wide) := by
  have h := sg_run wide l.length fs0 l (Nat.le_refl _) (fun g hg => absurd hg (by simp [fs0]))
  rw [← sg_endU] at h
  unfold fillM sgs
  have e : (endU (runS wide l.length fs0 l)).line = [] := by
    unfold endU
    split
    · assumption
    · rfl
  unfold sg at h
  rw [e, List.append_nil] at h
  rw [h]
  simp [fs0]
end Go.Proofs.YtjohhahfpgfjdaaGreatDoor.Tb
end
