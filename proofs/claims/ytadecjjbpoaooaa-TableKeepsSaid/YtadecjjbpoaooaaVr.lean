/- Layer 12: the law's signs. -/
import Derived.Test.YtadecjjbpoaooaaVp
import Derived.Test.YtadecjjbpoaooaaVn
namespace Go.Proofs.Ytadecjjbpoaooaa.Tb
open Go.RowKit Go.Maps
set_option linter.unusedVariables false
set_option linter.unusedSimpArgs false
theorem sgs_snoc (ls : List (List Gl)) (r : List Gl) : sgs (ls ++ [r]) = sgs ls ++ r.filter sgn := by simp [sgs]
set_option maxRecDepth 100000 in
set_option maxHeartbeats 4000000 in
theorem signs_law {P : Nat → Prop} (ls : List (List Gl)) (v : Value) (w : World) (h : RdL P w v ls) (hl : (sgs ls).length * 48 ≤ 140737488355328) : Calls Try.prog 17 #[v] w (MakesR (sgs ls) w) := by
  obtain ⟨i0, hi0, hz0, hz1, hz2⟩ := info_parts infoG
  obtain ⟨pa, ca, rfl, h1, h2⟩ := h.form
  unfold maxLen at h2
  have HH := Lib.hid h
  have HL := Lib.hid hl
  obtain ⟨n, hn⟩ : ∃ n, ls.length = n := ⟨_, rfl⟩
  have HN := Lib.hid hn
  rw [hn] at HH h1 ⊢
  have n62 : n ≤ 9223372036854775807 := by omega
  clear h hl hn h1
  go_enter Try.func17, Try.ntmps17
  go_wp2_with fail
  go_loopw [3, 4] (fun ov i wr => ∃ (k : Nat), i = .int .i64 k ∧ k ≤ n ∧ Hid (wr.ownsRow w.heap.size 40 5 ov (sgs (ls.take k)).length (rowsG (sgs (ls.take k)))) ∧ Hid (Below w.heap.size w wr)) (fun _ i _ => n - (intOf i).toNat)
  case atStart => exact ⟨0, rfl, Nat.zero_le _, Lib.hid (World.ownsRow_nil _ _ _ _), Lib.hid (Below.refl _ _)⟩
  case round =>
    obtain ⟨k, rfl, hk, HO, HB⟩ := hrel
    by_cases hlt : k < n
    · have hkl : k < ls.length := by rw [HN.out]; exact hlt
      have k1 : (k : Int) < n := by omega
      have HLT := Lib.hid hlt
      obtain ⟨r, hr⟩ : ∃ r, ls[k] = r := ⟨_, rfl⟩
      have HT := Lib.hid (show ls.take (k + 1) = ls.take k ++ [r] by rw [List.take_succ_eq_append_getElem hkl, hr])
      have HRE := Lib.hid (fun (h : k < ls.length) => (show ls[k] = r from hr))
      have HLR := Lib.hid (fun j (hj : j < r.length) (hs : sgn r[j] = true) => (show (sgs (ls.take k)).length + ((r.take j).filter sgn).length + 1 ≤ (sgs ls).length by
        have e : ls = ls.take k ++ r :: ls.drop (k + 1) := by rw [← hr, List.getElem_cons_drop, List.take_append_drop]
        have e2 : r = r.take j ++ r[j] :: r.drop (j + 1) := by rw [List.getElem_cons_drop, List.take_append_drop]
        have e3 : (r.filter sgn).length = ((r.take j).filter sgn).length + 1 + ((r.drop (j + 1)).filter sgn).length := by
          conv => lhs; rw [e2]
          rw [List.filter_append, List.filter_cons_of_pos hs, List.length_append, List.length_cons]; omega
        have e4 : (sgs ls).length = (sgs (ls.take k)).length + ((r.filter sgn).length + (sgs (ls.drop (k + 1))).length) := by
          conv => lhs; rw [e]
          simp [sgs]
        omega))
      have hmr : r.length ≤ 9223372036854775807 := by
        obtain ⟨_, _, _, _, _, _, _, l1, l2, _⟩ := (HH.out.below HB.out).at_ hkl
        rw [hr] at l1
        unfold maxLen at l2
        omega
      obtain ⟨m, hm⟩ : ∃ m, r.length = m := ⟨_, rfl⟩
      have HM := Lib.hid hm
      have m62 : m ≤ 9223372036854775807 := by omega
      have HO0 := Lib.hid (show wr.ownsRow w.heap.size 40 5 u3 (sgs (ls.take k) ++ (r.take 0).filter sgn).length (rowsG (sgs (ls.take k) ++ (r.take 0).filter sgn)) by simpa using HO.out)
      clear hlt hr hm hmr
      obtain ⟨w0, rfl⟩ : ∃ w0 : World, w0 = wr := ⟨wr, rfl⟩
      go_wp2_with fail
      go_loopw [3, 5] (fun ov i wr => ∃ (j : Nat), i = .int .i64 j ∧ j ≤ m ∧ Hid (wr.ownsRow w.heap.size 40 5 ov (sgs (ls.take k) ++ (r.take j).filter sgn).length (rowsG (sgs (ls.take k) ++ (r.take j).filter sgn))) ∧ Hid (Below w.heap.size w wr)) (fun _ i _ => m - (intOf i).toNat)
      case atStart => exact ⟨0, rfl, Nat.zero_le _, HO0, HB⟩
      case round =>
        obtain ⟨j, rfl, hj, HOj, HBj⟩ := hrel
        obtain ⟨w1, rfl⟩ : ∃ w1 : World, w1 = wr := ⟨wr, rfl⟩
        obtain ⟨b, off, p2, q2, rfl, _, l0, l1, l2, hx⟩ := (HH.out.below HBj.out).at_ hkl
        rw [HRE.out hkl, HM.out] at l0
        rw [HRE.out hkl] at hx
        clear l1 l2
        by_cases hlt : j < m
        · have hjl : j < r.length := by rw [HM.out]; exact hlt
          have j1 : (j : Int) < m := by omega
          have HLT2 := Lib.hid hlt
          obtain ⟨b3, o3, rfl, _, hg⟩ := hx.at_ hjl
          have HTJ := Lib.hid (show r.take (j + 1) = r.take j ++ [r[j]] from List.take_succ_eq_append_getElem hjl)
          have hjm : (r.take j).length = j := by rw [List.length_take]; omega
          obtain ⟨x, hx2⟩ : ∃ x, r[j] = x := ⟨_, rfl⟩
          rw [hx2] at hg HTJ
          have HSG := Lib.hid (sign_ref x w1)
          obtain ⟨z, hz⟩ : ∃ z, sgn x = z := ⟨_, rfl⟩
          rw [hz] at HSG
          unfold glV at HSG
          obtain ⟨d0, d1, d2, d3, d4⟩ := hg
          have HLX := Lib.hid (show sgn x = true → (sgs (ls.take k) ++ (r.take j).filter sgn).length + 1 ≤ (sgs ls).length by
            intro hs
            have := HLR.out j hjl (by rw [hx2]; exact hs)
            rw [List.length_append]
            omega)
          obtain ⟨N3, hN3⟩ : ∃ N3, (sgs (ls.take k) ++ (r.take j).filter sgn).length = N3 := ⟨_, rfl⟩
          rw [hN3] at HOj HLX
          obtain ⟨p3, c3, rfl⟩ := lenL HOj.out
          clear hx hjl hjm hx2 hlt
          cases z with
          | true =>
            have HNX := Lib.hid (show (sgs (ls.take k) ++ (r.take (j + 1)).filter sgn) = (sgs (ls.take k) ++ (r.take j).filter sgn) ++ [x] by rw [HTJ.out, List.filter_append, List.filter_cons_of_pos hz]; simp)
            have HN3 := Lib.hid hN3
            have hlen := HLX.out hz
            have hL := HL.out
            have L1 := Lib.hid (show N3 + 1 ≤ maxLen by unfold maxLen; omega)
            have L2 := Lib.hid (show (N3 + 1) * 48 ≤ 140737488355328 by omega)
            clear hz hN3 hlen hL
            go_wp2_with fail
            refine HSG.out.mono ?_
            rintro e w2 ⟨rfl, b2⟩
            have c0 := (b2.cell (p := ⟨b, off + k, none⟩) (cellInL l0)).trans l0
            have g0 := (b2.cell (cellInL d0)).trans d0
            have g1 := (b2.cell (cellInL d1)).trans d1
            have g2 := (b2.cell (cellInL d2)).trans d2
            have g3 := (b2.cell (cellInL d3)).trans d3
            have g4 := (b2.cell (cellInL d4)).trans d4
            have hA := below_box w2 (boxG x)
            have HO2 := Lib.hid (own_below (own_below HOj.out b2) hA)
            have HB2 := Lib.hid ((HBj.out.trans (b2.mono HBj.out.size)).trans (hA.mono (Nat.le_trans HBj.out.size b2.size)))
            have L3 := Lib.hid HB2.out.size
            unfold boxG at HO2 HB2 L3
            clear b2 hA d0 d1 d2 d3 d4 l0
            go_wp2_with (at_builtin; go_loud (refine wpList_append_own _ rfl _ _ 32 rfl w.heap.size 40 i0 _ 5 48 Try.underlying32 hi0 hz0 hz1 hz2 rfl (by decide) _ _ _ rfl HO2.out ⟨w2.heap.size, 0, none⟩ 1 1 (glRow x) rfl rfl (cells_newL _ _ _) (glRow_one x) L1.out L2.out L3.out ?_); intro v7 w7 hown7 hg7 _; have HO7 := Lib.hid hown7; have HB7 := Lib.hid (HB2.out.grown hg7 L3.out (fun c hc => (own_base HO2.out hc).1)); clear hown7 hg7)
            have HO8 := Lib.hid (show w7.ownsRow w.heap.size 40 5 v7 (sgs (ls.take k) ++ (r.take (j + 1)).filter sgn).length (rowsG (sgs (ls.take k) ++ (r.take (j + 1)).filter sgn)) by
              rw [HNX.out, List.length_append, HN3.out]
              have e : rowsG ((sgs (ls.take k) ++ (r.take j).filter sgn) ++ [x]) = rowsG (sgs (ls.take k) ++ (r.take j).filter sgn) ++ glRow x := by simp [rowsG]
              rw [e]; exact HO7.out)
            go_roundw
            case measure => have := HLT2.out; simp [intOf]; omega
            case rel => exact ⟨j + 1, by go_num, HLT2.out, HO8, HB7⟩
          | false =>
            have HNX := Lib.hid (show (sgs (ls.take k) ++ (r.take (j + 1)).filter sgn) = (sgs (ls.take k) ++ (r.take j).filter sgn) by rw [HTJ.out, List.filter_append, List.filter_cons_of_neg (by simp [hz])]; simp)
            have HN3 := Lib.hid hN3
            clear hz hN3
            go_wp2_with fail
            refine HSG.out.mono ?_
            rintro e w2 ⟨rfl, b2⟩
            have HB2 := Lib.hid (HBj.out.trans (b2.mono HBj.out.size))
            have HO8 := Lib.hid (show w2.ownsRow w.heap.size 40 5 (.slice p3 N3 c3) (sgs (ls.take k) ++ (r.take (j + 1)).filter sgn).length (rowsG (sgs (ls.take k) ++ (r.take (j + 1)).filter sgn)) by
              rw [HNX.out, HN3.out]
              exact own_below HOj.out b2)
            clear b2
            go_wp2_with fail
            go_roundw
            case measure => have := HLT2.out; simp [intOf]; omega
            case rel => exact ⟨j + 1, by go_num, HLT2.out, HO8, HB2⟩
        · obtain rfl : j = m := by omega
          have hzj : ¬ (j : Int) < j := by omega
          have HO9 := Lib.hid (show w1.ownsRow w.heap.size 40 5 u3 (sgs (ls.take (k + 1))).length (rowsG (sgs (ls.take (k + 1)))) by
            have := HOj.out
            have e : r.take j = r := List.take_of_length_le (by rw [HM.out]; exact Nat.le_refl _)
            rw [e] at this
            rw [HT.out, sgs_snoc]; exact this)
          clear hlt hx
          go_wp2_with fail
          go_roundw
          case measure => have := HLT.out; simp [intOf]; omega
          case rel => exact ⟨k + 1, by go_num, HLT.out, HO9, HBj⟩
    · obtain rfl : k = n := by omega
      have hzk : ¬ (k : Int) < k := by omega
      have HF := Lib.hid (show ls.take k = ls from List.take_of_length_le (by rw [HN.out]; exact Nat.le_refl _))
      clear hlt
      go_wp2_with fail
      go_ret
      exact ⟨_, rfl, by have := HO.out; rw [HF.out] at this; exact this, HB.out⟩
end Go.Proofs.Ytadecjjbpoaooaa.Tb
