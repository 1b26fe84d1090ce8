/- Layer 12: the law's parts. -/
import Derived.Test.YtadecjjbpoaooaaVv
namespace Go.Proofs.Ytadecjjbpoaooaa.Tb
open Go.RowKit Go.Maps
set_option linter.unusedVariables false
set_option linter.unusedSimpArgs false
def partsV (o : Option Int) : Value := match o with
  | some r => .tuple #[.int .i64 r, .bool true]
  | none => .tuple #[.int .i64 0, .bool false]
theorem parts_step {wide : Int} {ends : List Int} {k : Nat} {n g : Int} {ws : List Nat} (h : k < ws.length) : partsN wide ends k n g (ws.drop k) =
    if wide < (if g = 0 then (ws[k] : Int) else g + 1 + ws[k]) then none
    else partsN wide ends (k + 1) (if g = 0 then n + 1 else n) (if k < ends.length ∧ ends.getD k 0 ≠ 0 then 0 else if g = 0 then (ws[k] : Int) else g + 1 + ws[k]) (ws.drop (k + 1)) := by
  rw [← List.getElem_cons_drop (h := h)]
  rfl
set_option maxRecDepth 100000 in
set_option maxHeartbeats 4000000 in
theorem parts_law {P Q : Nat → Prop} (ws : List Nat) (ends : List Int) (v u : Value) (wide : Int) (w : World) (h : RdZ P w v (ws.map (fun (n : Nat) => (n : Int)))) (hu : RdZ Q w u ends) (hw : ∀ n ∈ ws, 1 ≤ n ∧ (n : Int) ≤ wide) (h2 : 1 ≤ wide ∧ wide ≤ 200) (hl : ws.length ≤ 300) :
    Calls Try.prog 18 #[v, u, .int .i64 wide] w fun e w' => e = .returned (partsV (partsN wide ends 0 0 0 ws)) ∧ w = w' := by
  obtain ⟨pa, cap, rfl, hc1, hc2⟩ := sliceZ h
  obtain ⟨pb, cab, rfl, hd1, hd2⟩ := sliceZ hu
  rw [List.length_map] at hc1
  have HH := Lib.hid h
  have HU := Lib.hid hu
  have HW := Lib.hid hw
  rw [List.length_map] at HH ⊢
  obtain ⟨n, hn⟩ : ∃ n, ws.length = n := ⟨_, rfl⟩
  have HN := Lib.hid hn
  obtain ⟨m, hm⟩ : ∃ m, ends.length = m := ⟨_, rfl⟩
  have HM := Lib.hid hm
  rw [hn] at HH hl hc1 ⊢
  rw [hm] at HU hd1 ⊢
  have n62 : n ≤ 9223372036854775807 := by omega
  have m62 : m ≤ 9223372036854775807 := by omega
  have w1 := h2.1
  have w2 := h2.2
  obtain ⟨O, hO⟩ : ∃ O, partsN wide ends 0 0 0 ws = O := ⟨_, rfl⟩
  have HO := Lib.hid (show partsN wide ends 0 0 0 (ws.drop 0) = O from hO)
  rw [hO]
  clear h hu hw hn hm hO h2 hc1 hd1
  go_enter Try.func18, Try.ntmps18
  go_wp2_with fail
  go_loop [8, 9, 10] (fun l g i => ∃ (k : Nat) (ln gn : Int), i = .int .i64 k ∧ k ≤ n ∧ l = .int .i64 ln ∧ g = .int .i64 gn ∧ (0 ≤ ln ∧ ln ≤ k) ∧ (0 ≤ gn ∧ gn ≤ wide) ∧ Hid (partsN wide ends k ln gn (ws.drop k) = O)) (fun _ _ i => n - (intOf i).toNat)
  case atStart => exact ⟨0, 0, 0, rfl, Nat.zero_le _, rfl, rfl, ⟨by omega, by omega⟩, ⟨by omega, by omega⟩, HO⟩
  case round =>
    obtain ⟨k, ln, gn, rfl, hk, rfl, rfl, hln, hgn, HP⟩ := hrel
    have l1 := hln.1
    have l2 := hln.2
    have g1 := hgn.1
    have g2 := hgn.2
    clear hln hgn
    by_cases hlt : k < n
    · have k1 : (k : Int) < n := by omega
      have hkl : k < ws.length := by rw [HN.out]; exact hlt
      obtain ⟨b, off, rfl, hc⟩ := HH.out.cell (j := k) (by rw [List.length_map]; exact hkl)
      rw [List.getElem_map] at hc
      have HST := Lib.hid (parts_step (wide := wide) (ends := ends) (n := ln) (g := gn) hkl)
      have hwk := HW.out _ (List.getElem_mem hkl)
      obtain ⟨y, hy⟩ : ∃ y, ws[k] = y := ⟨_, rfl⟩
      rw [hy] at hc HST hwk
      have y1 := hwk.1
      have y2 := hwk.2
      have HLT := Lib.hid hlt
      obtain ⟨X, hX⟩ : ∃ X, (if gn = 0 then (y : Int) else gn + 1 + y) = X := ⟨_, rfl⟩
      obtain ⟨L, hL⟩ : ∃ L, (if gn = 0 then ln + 1 else ln) = L := ⟨_, rfl⟩
      rw [hX, hL] at HST
      have hX2 : 1 ≤ X := by rw [← hX]; split <;> omega
      have hX3 : X ≤ 402 := by rw [← hX]; split <;> omega
      have hL2 : 0 ≤ L ∧ L ≤ k + 1 := by rw [← hL]; split <;> omega
      have HL := Lib.hid hL2
      have HXX := Lib.hid (show (gn = 0 ∧ X = y ∧ L = ln + 1) ∨ (gn ≠ 0 ∧ X = gn + 1 + y ∧ L = ln) by
        rw [← hX, ← hL]
        by_cases h : gn = 0
        · left; rw [if_pos h, if_pos h]; exact ⟨h, rfl, rfl⟩
        · right; rw [if_neg h, if_neg h]; exact ⟨h, rfl, rfl⟩)
      clear hlt hkl hwk hy hX hL hL2
      go_upto_if 18 with fail
      go_cut [8, 9] from 11 to 45 (fun s8 s9 wx => s8 = .int .i64 L ∧ s9 = .int .i64 X ∧ w = wx)
      case first =>
        rcases HXX.out with ⟨rfl, e2, e3⟩ | ⟨e1, e2, e3⟩
        · subst e2 e3
          go_wp2_with fail
          go_meet
          case rel => exact ⟨rfl, rfl, rfl⟩
        · have e0 : (gn == 0) = false := by simpa using e1
          subst e2 e3
          clear e1
          go_wp2_with fail
          go_meet
          case rel => exact ⟨rfl, rfl, rfl⟩
      case rest =>
        obtain ⟨rfl, rfl, rfl⟩ := hcut
        by_cases hf : wide < X
        · have d1 : decide (wide < X) = true := decide_eq_true hf
          have HE := Lib.hid (show none = O by rw [← HP.out, HST.out, if_pos hf])
          clear hf
          go_wp2_with fail
          go_ret2
          exact ⟨by rw [← HE.out]; rfl, rfl⟩
        · have d1 : decide (wide < X) = false := decide_eq_false hf
          have x3 : X ≤ wide := by omega
          have HE := Lib.hid (show partsN wide ends (k + 1) L (if k < ends.length ∧ ends.getD k 0 ≠ 0 then 0 else X) (ws.drop (k + 1)) = O by rw [← HP.out, HST.out, if_neg hf])
          rw [HM.out] at HE
          clear hf
          by_cases hk2 : k < m
          · have k2 : (k : Int) < m := by omega
            have hke : k < ends.length := by rw [HM.out]; exact hk2
            obtain ⟨b2, off2, rfl, hc2'⟩ := HU.out.cell hke
            have hge : ends.getD k 0 = ends[k] := by simp [List.getD_eq_getElem?_getD, hke]
            rw [hge] at HE
            obtain ⟨z, hz⟩ : ∃ z, ends[k] = z := ⟨_, rfl⟩
            rw [hz] at hc2' HE
            by_cases h0 : z = 0
            · subst h0
              have HE2 := Lib.hid (show partsN wide ends (k + 1) L X (ws.drop (k + 1)) = O by have := HE.out; rw [if_neg (by simp)] at this; exact this)
              clear hk2 hke hge hz HE
              go_wp2_with fail
              go_round
              case measure => have := HLT.out; simp [intOf]; omega
              case rel => exact ⟨k + 1, L, X, by go_num, HLT.out, rfl, rfl, ⟨HL.out.1, by have := HL.out.2; omega⟩, ⟨by omega, x3⟩, HE2⟩
            · have z0 : (z != 0) = true := by simpa using h0
              have HE2 := Lib.hid (show partsN wide ends (k + 1) L 0 (ws.drop (k + 1)) = O by have := HE.out; rw [if_pos ⟨hk2, h0⟩] at this; exact this)
              clear hk2 hke hge hz HE h0
              go_wp2_with fail
              go_round
              case measure => have := HLT.out; simp [intOf]; omega
              case rel => exact ⟨k + 1, L, 0, by go_num, HLT.out, rfl, rfl, ⟨HL.out.1, by have := HL.out.2; omega⟩, ⟨by omega, by omega⟩, HE2⟩
          · have k2 : ¬ (k : Int) < m := by omega
            have d2 : decide ((k : Int) < m) = false := decide_eq_false k2
            have HE2 := Lib.hid (show partsN wide ends (k + 1) L X (ws.drop (k + 1)) = O by have := HE.out; rw [if_neg (fun h => hk2 h.1)] at this; exact this)
            clear HE
            go_wp2_with fail
            go_round
            case measure => have := HLT.out; simp [intOf]; omega
            case rel => exact ⟨k + 1, L, X, by go_num, HLT.out, rfl, rfl, ⟨HL.out.1, by have := HL.out.2; omega⟩, ⟨by omega, x3⟩, HE2⟩
    · obtain rfl : n = k := by omega
      have hzk : ¬ (n : Int) < n := by omega
      have HE := Lib.hid (show some ln = O by
        have := HP.out
        rw [List.drop_of_length_le (by rw [HN.out]; exact Nat.le_refl _)] at this
        exact this)
      clear hlt
      go_wp2_with fail
      go_ret2
      exact ⟨by rw [← HE.out]; rfl, rfl⟩
end Go.Proofs.Ytadecjjbpoaooaa.Tb
