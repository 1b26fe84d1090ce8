/- The document's Words, bits, bit, color, names. -/
import Derived.Test.YtceanagnkcejgaaGreatDoorDa
import Derived.Test.YtceanagnkcejgaaGreatDoorDe
import Derived.Test.YtceanagnkcejgaaGreatDoorRc
import Derived.Test.YtceanagnkcejgaaGreatDoorRn
import Derived.Test.YtceanagnkcejgaaGreatDoorWb
import Derived.BigQuiet
import Derived.Deep.QuietTactic
namespace Go.Proofs.YtceanagnkcejgaaGreatDoor
open Go.RowKit
set_option linter.unusedVariables false

theorem att_get {k : Nat} (h : k < attrW.length) : attrW[k] = attrW.getD k [] := by simp [List.getD_eq_getElem?_getD, h]
set_option maxRecDepth 100000 in
theorem words7_ref (w : World) : Calls Tryz.prog 62 #[] w fun e w' => ∃ v, e = .returned v ∧ RdS w' v attrW ∧ Below w.heap.size w w' := by
  go_enter Tryz.func62, Tryz.ntmps62
  go_wp2_with fail
  go_ret
  exact ⟨_, rfl, RdS.own (xs := attrW) (World.ownsRow_lit (e := 9) (size := 1) (base := w.heap.size) w _ 7 (Nat.le_refl _) (by unfold maxLen; omega) rfl), (Below.refl _ w).alloc (Nat.le_refl _) _⟩

set_option maxRecDepth 100000 in
set_option maxHeartbeats 2000000 in
theorem bit_ref (t : List UInt8) (w : World) :
    Calls Tryz.prog 46 #[.string (bs t)] w (Says (.int .i64 (bitOf t)) w) := by
  go_enter Tryz.func46, Tryz.ntmps46
  go_wp2_with fail
  refine (words7_ref w).mono ?_
  rintro e w1 ⟨v1, rfl, hr, hb⟩
  obtain ⟨p1, c1, rfl, hd1, hd2⟩ := hr.form
  have HR := Lib.hid hr
  have HB := Lib.hid hb
  have l7 : attrW.length = 7 := rfl
  rw [l7] at hd1 HR ⊢
  unfold maxLen at hd2
  clear hr hb l7
  go_wp2_with fail
  go_loop [4] (fun i => ∃ k : Nat, k ≤ 7 ∧ i = .int .i64 k ∧ Hid (idxW t (attrW.drop k) k = idxW t attrW 0)) (fun i => 7 - (intOf i).toNat)
  case atStart => exact ⟨0, by omega, rfl, rfl⟩
  case round =>
    obtain ⟨k, hk, rfl, HF⟩ := hrel
    by_cases hlt : k < 7
    · obtain ⟨b, off, rfl, c0⟩ := HR.out.cell (show k < attrW.length from hlt)
      have hs := idx_step (w := t) hlt
      rw [att_get] at c0
      obtain ⟨x, hx⟩ : ∃ x, attrW.getD k [] = x := ⟨_, rfl⟩
      rw [hx] at hs c0
      have tx := bs_toList x
      have tt := bs_toList t
      have hlt2 : (k : Int) < 7 := by omega
      clear hx
      by_cases he : x = t
      · rw [if_pos he] at hs
        have HV := Lib.hid (bit_some (HF.out.symm.trans hs))
        have t1 : (x == t) = true := by simpa using he
        clear hs he
        go_wp2_with fail
        go_ret
        rw [HV.out]
        refine ⟨ret_i ?_, HB.out⟩
        have h7 : k = 0 ∨ k = 1 ∨ k = 2 ∨ k = 3 ∨ k = 4 ∨ k = 5 ∨ k = 6 := by omega
        rcases h7 with rfl | rfl | rfl | rfl | rfl | rfl | rfl <;> (first | rfl | (unfold wrap64; decide))
      · rw [if_neg he] at hs
        have HN := Lib.hid (hs.symm.trans HF.out)
        have t1 : (x == t) = false := by simpa using he
        clear hs he
        go_wp2_with fail
        go_round
        case rel => exact ⟨k + 1, by omega, by go_num, HN⟩
        case measure => simp [intOf]; omega
    · obtain rfl : k = 7 := by omega
      have HV := Lib.hid (bit_none (HF.out.symm.trans idx_end))
      go_wp2_with fail
      go_ret
      rw [HV.out]
      exact ⟨rfl, HB.out⟩

theorem colF_step {w : List UInt8} {k : Nat} (hk : k < 16) : colF w (16 - k) k = if itoaL k = w then some k else colF w (16 - (k + 1)) (k + 1) := by
  obtain ⟨f, hf⟩ : ∃ f, 16 - k = f + 1 := ⟨15 - k, by omega⟩
  rw [hf, show 16 - (k + 1) = f by omega]; rfl

set_option maxRecDepth 100000 in
set_option maxHeartbeats 2000000 in
theorem color_ref (t : List UInt8) (w : World) (hT : Tabs w) :
    Calls Tryz.prog 45 #[.string (bs t)] w (Says (fndV (colOf t)) w) := by
  have HT := Lib.hid hT
  clear hT
  go_enter Tryz.func45, Tryz.ntmps45
  go_wp2_with fail
  go_loopw [4] (fun i wr => ∃ k : Nat, k ≤ 16 ∧ i = .int .i64 k ∧ Hid (colF t (16 - k) k = colOf t) ∧ Below w.heap.size w wr) (fun i _ => 16 - (intOf i).toNat)
  case atStart => exact ⟨0, by omega, rfl, rfl, Below.refl _ _⟩
  case round =>
    obtain ⟨k, hk, rfl, HF, hbw⟩ := hrel
    have HB := Lib.hid hbw
    clear hbw
    by_cases hlt : k < 16
    · have hs := colF_step (w := t) hlt
      have hit := itoa_pro (k : Int) wr (by omega) (by omega) (HT.out.at HB.out)
      rw [itoa_is k hlt] at hit
      have HI := Lib.hid hit
      obtain ⟨x, hx⟩ : ∃ x, itoaL k = x := ⟨_, rfl⟩
      rw [hx] at hs HI
      have tx := bs_toList x
      have tt := bs_toList t
      have hlt2 : (k : Int) ≤ 15 := by omega
      clear hx hit
      by_cases he : x = t
      · rw [if_pos he] at hs
        have HV := Lib.hid (HF.out.symm.trans hs)
        have t1 : (x == t) = true := by simpa using he
        clear hs he
        go_wp2_with fail
        refine HI.out.mono ?_
        rintro e w1 ⟨rfl, hb⟩
        have HB1 := Lib.hid (HB.out.trans (hb.mono HB.out.size))
        clear hb
        go_wp2_with fail
        go_ret2
        rw [HV.out]
        exact ⟨rfl, HB1.out⟩
      · rw [if_neg he] at hs
        have HN := Lib.hid (hs.symm.trans HF.out)
        have t1 : (x == t) = false := by simpa using he
        clear hs he
        go_wp2_with fail
        refine HI.out.mono ?_
        rintro e w1 ⟨rfl, hb⟩
        have HB1 := Lib.hid (HB.out.trans (hb.mono HB.out.size))
        clear hb
        go_wp2_with fail
        go_roundw
        case rel => exact ⟨k + 1, by omega, by go_num, HN, HB1.out⟩
        case measure => simp [intOf]; omega
    · obtain rfl : k = 16 := by omega
      have HV := Lib.hid (show colOf t = none from HF.out.symm)
      go_wp2_with fail
      go_ret2
      rw [HV.out]
      exact ⟨rfl, HB.out⟩

theorem shr_bit (n k : Nat) (hn : n < 128) : (bits .and .i64 ((n : Int) / 2 ^ k) 1 == 1) = n.testBit k := by
  have e1 : (n : Int) / 2 ^ k = ((n / 2 ^ k : Nat) : Int) := by simp
  have h1 : n / 2 ^ k ≤ n := Nat.div_le_self _ _
  rw [e1, show (1 : Int) = ((1 : Nat) : Int) from rfl, nand _ _ (by omega) (by decide), Nat.testBit_eq_decide_div_mod_eq, Nat.and_one_is_mod]
  rw [Bool.eq_iff_iff]
  simp
  omega

set_option maxRecDepth 100000 in
set_option maxHeartbeats 2000000 in
theorem bits_ref (sg : UInt8) (n : Nat) (hn : n < 128) (w : World) :
    Calls Tryz.prog 52 #[.string (bs [sg]), .int .i64 n] w (Says (.string (bs (bitsT sg n 7))) w) := by
  go_enter Tryz.func52, Tryz.ntmps52
  go_wp2_with fail
  refine (words7_ref w).mono ?_
  rintro e w1 ⟨v1, rfl, hr, hb⟩
  obtain ⟨p1, c1, rfl, hd1, hd2⟩ := hr.form
  have HR := Lib.hid hr
  have HB := Lib.hid hb
  have l7 : attrW.length = 7 := rfl
  rw [l7] at hd1 HR ⊢
  unfold maxLen at hd2
  clear hr hb l7
  go_wp2_with fail
  go_loop [5, 7] (fun s i => ∃ k : Nat, k ≤ 7 ∧ i = .int .i64 k ∧ s = .string (bs (bitsT sg n k))) (fun _ i => 7 - (intOf i).toNat)
  case atStart => exact ⟨0, by omega, rfl, rfl⟩
  case round =>
    obtain ⟨k, hk, rfl, rfl⟩ := hrel
    by_cases hlt : k < 7
    · obtain ⟨b, off, rfl, c0⟩ := HR.out.cell (show k < attrW.length from hlt)
      rw [att_get] at c0
      have hlt2 : (k : Int) < 7 := by omega
      have tb := shr_bit n k hn
      have hT : bitsT sg n (k + 1) = bitsT sg n k ++ bitT sg n k := rfl
      have hB : bitT sg n k = if n.testBit k then 32 :: sg :: attrW.getD k [] else [] := rfl
      have hlen := bitsT_len sg n k (by omega)
      have hlx := attr_len k hlt
      obtain ⟨x, hx⟩ : ∃ x, attrW.getD k [] = x := ⟨_, rfl⟩
      obtain ⟨acc, hacc⟩ : ∃ acc, bitsT sg n k = acc := ⟨_, rfl⟩
      obtain ⟨q, hq⟩ : ∃ q, n.testBit k = q := ⟨_, rfl⟩
      rw [hx] at hB hlx c0
      rw [hacc] at hT hlen ⊢
      rw [hq] at hB tb
      have z1 := bs_len acc
      have z2 := bs_len x
      have z3 := bs_len [sg]
      have z4 : [sg].length = 1 := rfl
      have f1 : ¬ 9223372036854775807 < (bs acc).size + 1 := by omega
      have f2 : ¬ 9223372036854775807 < (bs acc).size + 1 + (bs [sg]).size := by omega
      have f3 : ¬ 9223372036854775807 < (bs acc).size + 1 + (bs [sg]).size + (bs x).size := by omega
      have HT := Lib.hid (hT.trans (congrArg (acc ++ ·) hB))
      clear hT hB hx hacc hq z1 z2 z3 z4 hlen hlx
      cases q with
      | true =>
        go_wp2_with fail
        go_round
        case rel =>
          refine ⟨k + 1, by omega, by go_num, ?_⟩
          rw [HT.out]
          show Value.string (bs acc ++ bs [32] ++ bs [sg] ++ bs x) = Value.string (bs (acc ++ (32 :: sg :: x)))
          rw [bs_app, bs_app, bs_app]
          simp
        case measure => simp [intOf]; omega
      | false =>
        go_wp2_with fail
        go_round
        case rel =>
          refine ⟨k + 1, by omega, by go_num, ?_⟩
          rw [HT.out]
          simp
        case measure => simp [intOf]; omega
    · obtain rfl : k = 7 := by omega
      go_wp2_with fail
      go_ret
      exact ⟨rfl, HB.out⟩
end Go.Proofs.YtceanagnkcejgaaGreatDoor
