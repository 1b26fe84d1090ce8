/- The program's bitOf. -/
import Derived.Test.YtceanagnkcejgaaGreatDoorRn
namespace Go.Proofs.YtceanagnkcejgaaGreatDoor
open Go.RowKit
set_option linter.unusedVariables false

theorem idx_step {w : List UInt8} {k : Nat} (hk : k < 7) : idxW w (attrW.drop k) k = if attrW.getD k [] = w then some k else idxW w (attrW.drop (k + 1)) (k + 1) := by
  have hl : k < attrW.length := by simp [attrW]; omega
  rw [List.drop_eq_getElem_cons hl]
  have : attrW.getD k [] = attrW[k] := by simp [List.getD_eq_getElem?_getD, hl]
  rw [this]; rfl
theorem idx_end {w : List UInt8} : idxW w (attrW.drop 7) 7 = none := rfl
theorem bit_some {w : List UInt8} {k : Nat} (h : idxW w attrW 0 = some k) : bitOf w = ((2 ^ k : Nat) : Int) := by unfold bitOf; rw [h]
theorem bit_none {w : List UInt8} (h : idxW w attrW 0 = none) : bitOf w = 0 := by unfold bitOf; rw [h]

set_option maxRecDepth 100000 in
set_option maxHeartbeats 2000000 in
theorem bitOf_pro (t : List UInt8) (w : World) (hT : Tabs w) :
    Calls Tryz.prog 70 #[.string (bs t)] w fun e w' => e = .returned (.int .i64 (bitOf t)) ∧ w = w' := by
  have HT := Lib.hid hT
  clear hT
  go_enter Tryz.func70, Tryz.ntmps70
  go_wp2_with fail
  go_loop [3, 4] (fun _ i => ∃ k : Nat, k ≤ 7 ∧ i = .int .i64 k ∧ Hid (idxW t (attrW.drop k) k = idxW t attrW 0)) (fun _ i => 7 - (intOf i).toNat)
  case atStart => exact ⟨0, by omega, rfl, rfl⟩
  case round =>
    obtain ⟨k, hk, rfl, HF⟩ := hrel
    by_cases hlt : k < 7
    · have c0 := HT.out.att k hlt
      have hs := idx_step (w := t) hlt
      obtain ⟨x, hx⟩ : ∃ x, attrW.getD k [] = x := ⟨_, rfl⟩
      rw [hx] at hs c0
      have tx := bs_toList x
      have tt := bs_toList t
      clear hx
      by_cases he : x = t
      · rw [if_pos he] at hs
        have HV := Lib.hid (bit_some (HF.out.symm.trans hs))
        have t1 : (x == t) = true := by simpa using he
        clear hs he
        go_wp2_with fail
        go_ret
        rw [HV.out]
        refine ⟨ret_i ?_, rfl⟩
        have h7 : k = 0 ∨ k = 1 ∨ k = 2 ∨ k = 3 ∨ k = 4 ∨ k = 5 ∨ k = 6 := by omega
        rcases h7 with rfl | rfl | rfl | rfl | rfl | rfl | rfl <;> (unfold wrap64; decide)
      · rw [if_neg he] at hs
        have HN := Lib.hid (hs.symm.trans HF.out)
        have t1 : (x == t) = false := by simpa using he
        clear hs he
        go_wp2_with fail
        go_round
        case rel => exact ⟨k + 1, by omega, by go_num, HN⟩
        case measure => simp [intOf]; omega
    · obtain rfl : k = 7 := by omega
      have HV := Lib.hid (bit_none (HF.out.symm.trans idx_end))
      go_wp2_with fail
      go_ret
      rw [HV.out]
      exact ⟨rfl, rfl⟩
end Go.Proofs.YtceanagnkcejgaaGreatDoor
