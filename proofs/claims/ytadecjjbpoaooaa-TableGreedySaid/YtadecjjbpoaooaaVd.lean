/- Layer 12: the program's standApart, Row. -/
import Derived.Test.YtadecjjbpoaooaaVc
import Derived.Test.YtadecjjbpoaooaaUl
import Derived.Test.YtadecjjbpoaooaaUs
namespace Go.Proofs.Ytadecjjbpoaooaa.Tb
open Go.RowKit Go.Maps
set_option linter.unusedVariables false
set_option linter.unusedSimpArgs false
theorem standF_cons (e : Int) (c : Int × Int) (cs : List (Int × Int)) : standF e (c :: cs) = (within c.2 1 200 && within c.1 e (200 - c.2) && standF (c.1 + c.2) cs) := rfl
set_option maxRecDepth 100000 in
set_option maxHeartbeats 2000000 in
theorem stand_pro {P : Nat → Prop} (cs : List (Int × Int)) (v : Value) (w : World) (h : RdC P w v cs) : Calls Try.prog 33 #[v] w (SaysL (.bool (standF 0 cs)) w) := by
  obtain ⟨pa, cap, rfl, h1, h2⟩ := sliceC h
  have HH := Lib.hid h
  obtain ⟨n, hn⟩ : ∃ n, cs.length = n := ⟨_, rfl⟩
  have HN := Lib.hid hn
  rw [hn] at HH h1 ⊢
  have hn62 : n ≤ 9223372036854775807 := by omega
  clear h hn h1
  go_enter Try.func33, Try.ntmps33
  go_wp2_with fail
  go_loopw [3, 8] (fun e i wr => ∃ (k : Nat) (d : Int), i = .int .i64 k ∧ k ≤ n ∧ e = .int .i64 d ∧ 0 ≤ d ∧ d ≤ 200 ∧ Hid (standF 0 cs = standF d (cs.drop k)) ∧ Hid (Below w.heap.size w wr)) (fun _ i _ => n - (intOf i).toNat)
  case atStart => exact ⟨0, 0, rfl, Nat.zero_le _, rfl, by omega, by omega, Lib.hid (by rw [List.drop_zero]), Lib.hid (Below.refl _ _)⟩
  case round =>
    obtain ⟨k, d, rfl, hk, rfl, hd0, hd2, HS, HB⟩ := hrel
    by_cases hlt : k < n
    · have hkl : k < cs.length := by rw [HN.out]; exact hlt
      obtain ⟨b, off, rfl, _, c0, c1⟩ := (HH.out.below HB.out).cell hkl
      have hd := List.drop_eq_getElem_cons hkl
      obtain ⟨c, hc⟩ : ∃ c, cs[k] = c := ⟨_, rfl⟩
      rw [hc] at c0 c1 hd
      have hS := HS.out
      rw [hd, standF_cons] at hS
      have HSE := Lib.hid hS
      have HB1 := Lib.hid (HB.out.trans ((below_box wr (.cells #[.int .i64 c.1, .int .i64 c.2] 53)).mono HB.out.size))
      have k1 : (k : Int) < n := by omega
      have HLT := Lib.hid hlt
      have HW1 := Lib.hid (within_pro c.2 1 200)
      have HW2 := Lib.hid (within_pro c.1 d (200 - c.2))
      clear hc hlt hd hS
      by_cases hw : 1 ≤ c.2 ∧ c.2 ≤ 200
      · have hwt : within c.2 1 200 = true := decide_eq_true hw
        rw [hwt] at HW1 HSE
        have w1 := hw.1
        have w2 := hw.2
        by_cases ha : d ≤ c.1 ∧ c.1 ≤ 200 - c.2
        · have hat : within c.1 d (200 - c.2) = true := decide_eq_true ha
          rw [hat] at HW2 HSE
          have a1 := ha.1
          have a2 := ha.2
          clear hw hwt ha hat
          go_wp2_with fail
          refine (HW1.out _).mono ?_
          rintro e w2 ⟨rfl, rfl⟩
          go_wp2_with fail
          refine (HW2.out _).mono ?_
          rintro e w2 ⟨rfl, rfl⟩
          go_wp2_with fail
          go_roundw
          case measure => have := HLT.out; simp [intOf]; omega
          case rel => exact ⟨k + 1, c.1 + c.2, by go_num, HLT.out, rfl, by omega, by omega, Lib.hid (by rw [HSE.out]; rfl), HB1⟩
        · have hat : within c.1 d (200 - c.2) = false := decide_eq_false ha
          rw [hat] at HW2 HSE
          clear hw hwt ha hat
          go_wp2_with fail
          refine (HW1.out _).mono ?_
          rintro e w2 ⟨rfl, rfl⟩
          go_wp2_with fail
          refine (HW2.out _).mono ?_
          rintro e w2 ⟨rfl, rfl⟩
          go_wp2_with fail
          go_ret
          exact ⟨by rw [HSE.out]; rfl, HB1.out⟩
      · have hwt : within c.2 1 200 = false := decide_eq_false hw
        rw [hwt] at HW1 HSE
        clear hw hwt
        go_wp2_with fail
        refine (HW1.out _).mono ?_
        rintro e w2 ⟨rfl, rfl⟩
        go_wp2_with fail
        go_ret
        exact ⟨by rw [HSE.out]; rfl, HB1.out⟩
    · obtain rfl : k = n := by omega
      have hzk : ¬ (k : Int) < k := by omega
      have HF := Lib.hid (show standF 0 cs = true by rw [HS.out, List.drop_eq_nil_of_le (by rw [HN.out]; exact Nat.le_refl _)]; rfl)
      clear hlt
      go_wp2_with fail
      go_ret
      exact ⟨by rw [HF.out]; rfl, HB.out⟩
def RowPost (cs : List (Int × Int)) (fs : List (List Gl)) (w : World) (e : Ending) (w' : World) : Prop := ∃ v, e = .returned (.tuple #[v, .int .i64 (rowE cs fs)]) ∧ RdL (w.heap.size ≤ ·) w' v (rowL cs fs) ∧ Below w.heap.size w w'
theorem row_bad {cs : List (Int × Int)} {fs : List (List Gl)} {w w' : World} {x : Int} (h : rowE cs fs = x) (hx : x ≠ 0) (hb : Below w.heap.size w w') : RowPost cs fs w (.returned (.tuple #[.slice none 0 0, .int .i64 x])) w' := by
  have e : rowL cs fs = [] := by unfold rowL; rw [h, if_neg hx]
  exact ⟨.slice none 0 0, by rw [h], by rw [e]; exact ⟨none, 0, rfl, Nat.le_refl _, Nat.zero_le _, fun j hj => absurd hj (by simp)⟩, hb⟩
/-- The row of which k columns are done. -/
def RowAt (cs : List (Int × Int)) (fs : List (List Gl)) (k : Nat) (d : Int) (rows : List (List Gl)) : Prop :=
  0 ≤ d ∧ d ≤ 200 ∧ standF d (cs.drop k) = true ∧ (∀ r ∈ rows, LineOk d r) ∧ rowF [] cs fs = rowF rows (cs.drop k) (fs.drop k) ∧ errF cs fs = errF (cs.drop k) (fs.drop k) ∧ rows.length * 48 ≤ 140737488355328
set_option maxRecDepth 100000 in
set_option maxHeartbeats 4000000 in
theorem row_pro {P Q : Nat → Prop} (cs : List (Int × Int)) (fs : List (List Gl)) (v u : Value) (w : World) (h : RdC P w v cs) (hf : RdL Q w u fs) (hl : ∀ f ∈ fs, (f.length + 1) * 48 ≤ 140737488355328) :
    Calls Try.prog 19 #[v, u] w (RowPost cs fs w) := by
  obtain ⟨pa, cap, rfl, h1, h2⟩ := sliceC h
  obtain ⟨pf, cf, rfl, h3, h4⟩ := hf.form
  unfold maxLen at h4
  have HST := Lib.hid (stand_pro cs _ w h)
  have HC := Lib.hid h
  have HF := Lib.hid hf
  have HL := Lib.hid hl
  have HWN := Lib.hid (within_pro cs.length 1 8 w)
  obtain ⟨n, hn⟩ : ∃ n, cs.length = n := ⟨_, rfl⟩
  obtain ⟨m, hm⟩ : ∃ m, fs.length = m := ⟨_, rfl⟩
  have HN := Lib.hid hn
  have HM := Lib.hid hm
  rw [hn] at HC HST HWN h1 ⊢
  rw [hm] at HF h3 ⊢
  have n62 : n ≤ 9223372036854775807 := by omega
  have m62 : m ≤ 9223372036854775807 := by omega
  clear h hf hl hn hm h1 h3
  by_cases hmn : m = n
  · obtain rfl : m = n := hmn
    have t0 : ((m : Int) != (m : Int)) = false := by simp
    by_cases h8 : 1 ≤ m ∧ m ≤ 8
    · have hwt : within m 1 8 = true := decide_eq_true (by omega)
      rw [hwt] at HWN
      obtain ⟨z, hz⟩ : ∃ z, standF 0 cs = z := ⟨_, rfl⟩
      rw [hz] at HST
      cases z with
      | false =>
        have HE := Lib.hid (show rowE cs fs = 1 by unfold rowE; rw [if_pos (by rw [hz]; exact .inr (.inr (.inr rfl)))])
        clear h8 hwt hz
        go_enter Try.func19, Try.ntmps19
        go_wp2_with fail
        refine HWN.out.mono ?_
        rintro e w1 ⟨rfl, rfl⟩
        go_wp2_with fail
        refine HST.out.mono ?_
        rintro e w1 ⟨rfl, hb⟩
        have HB := Lib.hid hb
        clear hb
        go_wp2_with fail
        go_ret2
        exact row_bad HE.out (by omega) HB.out
      | true =>
        have HEE := Lib.hid (show rowE cs fs = errF cs fs by
          unfold rowE
          rw [if_neg]
          rintro (h | h | h | h)
          · exact h (by rw [HN.out, HM.out])
          · rw [HN.out] at h; omega
          · rw [HN.out] at h; omega
          · rw [hz] at h; cases h)
        have HAT := Lib.hid (show RowAt cs fs 0 0 [] from ⟨by omega, by omega, by rw [List.drop_zero]; exact hz, fun r hr => absurd hr (by simp), by rw [List.drop_zero, List.drop_zero], by rw [List.drop_zero, List.drop_zero], by simp⟩)
        clear hwt hz
        go_enter Try.func19, Try.ntmps19
        go_wp2_with fail
        refine HWN.out.mono ?_
        rintro e w1 ⟨rfl, rfl⟩
        go_wp2_with fail
        refine HST.out.mono ?_
        rintro e w1 ⟨rfl, hb⟩
        have HB := Lib.hid hb
        clear hb
        go_wp2_with fail
        go_loopw [6, 29] (fun rv i wr => ∃ (k : Nat) (d : Int) (rows : List (List Gl)) (vs : List Value), i = .int .i64 k ∧ k ≤ m ∧ Hid (RowAt cs fs k d rows) ∧ Hid (OwnR w.heap.size wr rv rows vs) ∧ Hid (Below w.heap.size w wr)) (fun _ i _ => m - (intOf i).toNat)
        case atStart => exact ⟨0, 0, [], [], rfl, Nat.zero_le _, HAT, Lib.hid (OwnL.nil _ _ _), HB⟩
        case round =>
          obtain ⟨k, d, rows, vs, rfl, hk, HA, HR, HBr⟩ := hrel
          by_cases hlt : k < m
          · have hkc : k < cs.length := by rw [HN.out]; exact hlt
            have hkf : k < fs.length := by rw [HM.out]; exact hlt
            obtain ⟨b, off, rfl, _, c0, c1⟩ := (HC.out.below HBr.out).cell hkc
            obtain ⟨b2, o2, p2, q2, rfl, _, l0, _, _, hx⟩ := (HF.out.below HBr.out).at_ hkf
            have hdc := List.drop_eq_getElem_cons hkc
            have hdf := List.drop_eq_getElem_cons hkf
            have hxl := HL.out _ (List.getElem_mem hkf)
            obtain ⟨c, hc⟩ : ∃ c, cs[k] = c := ⟨_, rfl⟩
            obtain ⟨x, hxx⟩ : ∃ x, fs[k] = x := ⟨_, rfl⟩
            rw [hc] at c0 c1 hdc
            rw [hxx] at l0 hx hdf hxl
            obtain ⟨a1, a2, a3, a4, a5, a6, a7⟩ := HA.out
            rw [hdc, standF_cons] at a3
            rw [hdc, hdf] at a5 a6
            simp only [rowF] at a5
            simp only [errF] at a6
            have hA := below_box wr (.cells #[.int .i64 c.1, .int .i64 c.2] 53)
            have hX := heap_alloc_new wr (.cells #[.int .i64 c.1, .int .i64 c.2] 53)
            have HXG := Lib.hid (hx.below hA)
            have HRA := Lib.hid (HR.out.below hA)
            have HBA := Lib.hid (HBr.out.trans (hA.mono HBr.out.size))
            have HA3 := Lib.hid a3
            have HA4 := Lib.hid a4
            have HA5 := Lib.hid a5
            have HA6 := Lib.hid a6
            have HA7 := Lib.hid a7
            have HXL := Lib.hid hxl
            have k1 : (k : Int) < m := by omega
            have HLT := Lib.hid hlt
            have f2 := (hA.cell (p := ⟨b2, o2 + k, none⟩) (cellInL l0)).trans l0
            obtain ⟨W1, hW1⟩ : ∃ W1, wr.alloc (.cells #[.int .i64 c.1, .int .i64 c.2] 53) = W1 := ⟨_, rfl⟩
            rw [hW1] at hX HXG HRA HBA f2
            obtain ⟨e0, e1⟩ : W1.cell? ⟨wr.heap.size, 0, none⟩ = some (.int .i64 c.1) ∧ W1.cell? ⟨wr.heap.size, 1, none⟩ = some (.int .i64 c.2) := by
              refine ⟨?_, ?_⟩ <;> rw [cell_of_row _ _ _ _ _ _ hX] <;> rfl
            obtain ⟨z, hz⟩ : ∃ z, x.length = z := ⟨_, rfl⟩
            rw [hz] at f2 HXG l0
            have HZ := Lib.hid hz
            have HX := Lib.hid hX
            have HS0 := Lib.hid (show W1.drew.cell? ⟨b2, o2 + k, none⟩ = some (.slice p2 z q2) ∧ W1.drew.cell? ⟨wr.heap.size, 1, none⟩ = some (.int .i64 c.2) ∧ Below W1.heap.size W1 W1.drew from ⟨f2, e1, (Below.refl _ _).drew⟩)
            have HXLL := Lib.hid (show (x.length + 1) * 24 ≤ 140737488355328 by omega)
            clear hc hxx hx hdc hdf hxl a3 a4 a5 a6 a7 hA hlt hz hX
            go_upto_region 7 with fail
            go_region_held3 (fun w' => w'.cell? ⟨b2, o2 + k, none⟩ = some (.slice p2 z q2) ∧ w'.cell? ⟨wr.heap.size, 1, none⟩ = some (.int .i64 c.2) ∧ Below W1.heap.size W1 w')
              (first | exact HS0.out | exact ⟨(h8.cell (p := ⟨b2, o2 + k, none⟩) (cellInL (by assumption : _ ∧ _ ∧ Below W1.heap.size W1 _).1)).trans (by assumption : _ ∧ _ ∧ Below W1.heap.size W1 _).1, (h8.cell (p := ⟨wr.heap.size, 1, none⟩) (cellInL (by assumption : _ ∧ _ ∧ Below W1.heap.size W1 _).2.1)).trans (by assumption : _ ∧ _ ∧ Below W1.heap.size W1 _).2.1, (by assumption : _ ∧ _ ∧ Below W1.heap.size W1 _).2.2.trans (h8.mono (by assumption : _ ∧ _ ∧ Below W1.heap.size W1 _).2.2.size)⟩ | assumption)
              ((first
                | (go_at_call 11; refine (fill_pro c.2 x _ _ (HXG.out.below ((by assumption : _ ∧ _ ∧ Below W1.heap.size W1 _).2.2)) HXLL.out).mono ?_; rintro e w8 ⟨v8, rfl, ho8, h8⟩)))
            have hh : Below W1.heap.size W1 w8 := (by assumption : _ ∧ _ ∧ Below W1.heap.size W1 w8).2.2
            have g0 := (hh.cell (p := ⟨wr.heap.size, 0, none⟩) (cellInL e0)).trans e0
            have hB8 := HBA.out.trans (hh.mono HBA.out.size)
            obtain ⟨E, hE⟩ : ∃ E, fillE c.2 x = E := ⟨_, rfl⟩
            rw [hE] at HA6
            by_cases h0 : E = 0
            · subst h0
              have hf : fillL c.2 x = fillM c.2 x := by unfold fillL; rw [if_pos hE]
              rw [hf] at ho8
              have hR8 := HRA.out.below hh
              have hown : ∀ b, u6.ownBlock = some b → b < W1.heap.size := fun b hb => (own_base HRA.out.row hb).2
              have hL8 : RdL (fun b => u6.ownBlock ≠ some b) w8 v8 (fillM c.2 x) := ho8.imp fun b _ hb e => by
                have := hown b e
                have hb' : W1.heap.size ≤ b := hb
                omega
              have hs := HA3.out
              rw [Bool.and_eq_true, Bool.and_eq_true] at hs
              have s1 : 1 ≤ c.2 ∧ c.2 ≤ 200 := of_decide_eq_true hs.1.1
              have s2 : d ≤ c.1 ∧ c.1 ≤ 200 - c.2 := of_decide_eq_true hs.1.2
              have s3 := hs.2
              have hlen := fill_len hE
              have hxl := HXL.out
              have h7 := HA7.out
              have HBP := Lib.hid (beside_pro (B := w.heap.size) rows (fillM c.2 x) u6 v8 vs c.1 d c.2 w8 hR8 hB8.size hL8 HA4.out (fill_lines hE) a1 s2.1 (by omega) (by omega) s1.2 (by omega))
              have HAT2 := Lib.hid (show RowAt cs fs (k + 1) (c.1 + c.2) (putB rows (fillM c.2 x) c.1) from ⟨by omega, by omega, s3, putB_ok HA4.out a1 s2.1 (fill_lines hE) (by omega), HA5.out, by rw [HA6.out, if_pos rfl], by unfold putB; rw [putK_len]; omega⟩)
              rw [hE]
              have HB8 := Lib.hid hB8
              clear hh hB8 hf hR8 hown hL8 hs s1 s2 s3 hlen hxl h7 ho8 hE h8
              go_wp2_with fail
              refine HBP.out.mono ?_
              rintro e w9 ⟨v9, vs9, rfl, hO9, hb9⟩
              have HO9 := Lib.hid hO9
              have HB9 := Lib.hid (HB8.out.trans hb9)
              clear hO9 hb9
              go_wp2_with fail
              go_roundw
              case measure => have := HLT.out; simp [intOf]; omega
              case rel => exact ⟨k + 1, c.1 + c.2, _, vs9, by go_num, HLT.out, HAT2, HO9, HB9⟩
            · have tE : (E != 0) = true := by simp [h0]
              have HEC := Lib.hid (show errF cs fs = E by rw [HA6.out, if_neg h0])
              have HB8 := Lib.hid hB8
              rw [hE]
              clear hh hB8 ho8 hE h8
              go_wp2_with fail
              go_ret2
              exact row_bad (HEE.out.trans HEC.out) h0 HB8.out
          · obtain rfl : k = m := by omega
            have hzk : ¬ (k : Int) < k := by omega
            obtain ⟨_, _, _, _, a5, a6, _⟩ := HA.out
            have e1 : cs.drop k = [] := List.drop_eq_nil_of_le (by rw [HN.out]; exact Nat.le_refl _)
            rw [e1] at a5 a6
            have HE0 := Lib.hid (show rowE cs fs = 0 by rw [HEE.out, a6]; rfl)
            have HRL := Lib.hid (show rowL cs fs = rows by unfold rowL; rw [if_pos HE0.out, a5]; cases fs.drop k <;> rfl)
            clear hlt a5 a6 e1
            go_wp2_with fail
            go_ret2
            exact ⟨u6, by rw [HE0.out]; rfl, by rw [HRL.out]; exact HR.out.rd (fun b hb _ => hb) (fun b _ hb => hb.1), HBr.out⟩
    · have hwt : within m 1 8 = false := decide_eq_false (by omega)
      rw [hwt] at HWN
      have HE := Lib.hid (show rowE cs fs = 1 by unfold rowE; rw [if_pos (by rw [HN.out]; omega)])
      clear h8 hwt HST
      go_enter Try.func19, Try.ntmps19
      go_wp2_with fail
      refine HWN.out.mono ?_
      rintro e w1 ⟨rfl, rfl⟩
      go_wp2_with fail
      go_ret2
      exact row_bad HE.out (by omega) (Below.refl _ _)
  · have t0 : ((m : Int) != (n : Int)) = true := by simp; omega
    have HE := Lib.hid (show rowE cs fs = 1 by unfold rowE; rw [if_pos (by rw [HN.out, HM.out]; exact .inl hmn)])
    clear HST HWN
    go_enter Try.func19, Try.ntmps19
    go_wp2_with fail
    go_ret2
    exact row_bad HE.out (by omega) (Below.refl _ _)
end Go.Proofs.Ytadecjjbpoaooaa.Tb
