/- awake of the laws of layer 3: the chapter's first examples. -/
import Derived.Test.YtcgeldmbndaocaaDoorAwk
import Derived.Lib.SlBytesConst
namespace Go.Proofs.YtcgeldmbndaocaaDoor
open Go.RowKit Go.Maps

theorem Tabs.at {w w' : World} (h : Tabs w) (hb : Below w.heap.size w w') : Tabs w' := h.below hb (Nat.le_refl _)
theorem ex_300 : [] ++ gr 300 = [172, 2] := by decide
theorem ex_m1 : [] ++ gr (zz (-1)) = [1] := by decide
theorem ex_sum : crc [49, 50, 51, 52, 53, 54, 55, 56, 57] = 3421780262 := by decide +kernel
theorem ex_u1 : uval [172, 2, 7] (0, 0) = 300 := by decide
theorem ex_u2 : ust [172, 2, 7] (0, 0) = (2, 0) := by decide
theorem ex_b1 : le (pout [172, 2, 7] (2, 0) 1) = 7 := by decide
theorem ex_b2 : pst [172, 2, 7] (2, 0) 1 = (3, 0) := by decide
theorem ex_may : may ⟨#[97]⟩ = true := by decide +kernel
theorem new_size {w w' : World} (h : Below w.heap.size w w') : w.heap.size ≤ w'.heap.size := h.size

set_option maxRecDepth 100000 in
set_option maxHeartbeats 4000000 in
theorem awake_law (w : World) (hT : Tabs w) : Calls Tryd.prog 9 #[] w (Says (.bool true) w) := by
  have HT := Lib.hid hT
  have hm : ∀ n : Nat, n ≤ 9 → n ≤ maxLen := by intro n h; unfold maxLen; omega
  have HM := Lib.hid hm
  have kc := fun (w : World) (C : Array Value) (n c : Nat) => Lib.run_convert_bytes_const (P := Tryd.prog) w 22 5 C n c Tryd.underlying22 Tryd.underlying5
  clear hT hm
  go_enter Tryd.func9, Tryd.ntmps9
  go_wp2_with fail
  refine (new_pro [172, 2, 7] _ _ (rd_new _ _ _ _ _ (by rfl) (by rfl) (HM.out _ (by decide))) (by decide)).mono ?_
  rintro e w1 ⟨g, rfl, hg, hc, hb⟩
  have C1 := Lib.hid hc
  have GE := Lib.hid (show w.heap.size ≤ g by simp at hg; omega)
  have B1 := Lib.hid (((Below.refl w.heap.size w).alloc (Nat.le_refl _) _).trans (hb.mono (by simp)))
  clear hg hc hb
  go_wp2_with fail
  refine (putUint_pro [] _ 300 _ (Rd.nil _) (by decide) (by decide)).mono ?_
  rintro e w2 ⟨v2, rfl, ho, hb⟩
  rw [ex_300] at ho
  have R2 := Lib.hid (Rd.own ho)
  obtain ⟨p2, c2, rfl, _⟩ := (Rd.own ho).form
  have C2 := Lib.hid (C1.out.below hb)
  have B2 := Lib.hid (B1.out.trans (hb.mono B1.out.size))
  clear ho hb C1 B1
  go_wp2_with fail
  refine (same_pro [172, 2] [172, 2] _ _ _ (R2.out.below ((Below.refl _ _).alloc (Nat.le_refl _) _)) (rd_new _ _ _ _ _ (by rfl) (by rfl) (HM.out _ (by decide)))).mono ?_
  rintro e w3 ⟨rfl, rfl⟩
  have C3 := Lib.hid (C2.out.below ((Below.refl _ _).alloc (Nat.le_refl _) (.cells #[.int .u8 172, .int .u8 2] 5)))
  have B3 := Lib.hid (B2.out.alloc B2.out.size (.cells #[.int .u8 172, .int .u8 2] 5))
  clear C2 B2 R2
  go_wp2_with fail
  refine (putInt_pro [] _ (-1) _ (Rd.nil _) (by decide) (by decide)).mono ?_
  rintro e w4 ⟨v4, rfl, ho, hb⟩
  rw [ex_m1] at ho
  have R4 := Lib.hid (Rd.own ho)
  obtain ⟨p4, c4, rfl, _⟩ := (Rd.own ho).form
  have C4 := Lib.hid (C3.out.below hb)
  have B4 := Lib.hid (B3.out.trans (hb.mono B3.out.size))
  clear ho hb C3 B3
  go_wp2_with fail
  refine (same_pro [1] [1] _ _ _ (R4.out.below ((Below.refl _ _).alloc (Nat.le_refl _) _)) (rd_new _ _ _ _ _ (by rfl) (by rfl) (HM.out _ (by decide)))).mono ?_
  rintro e w5 ⟨rfl, hw⟩
  have C5 := Lib.hid (show Cur w5 g [172, 2, 7] 0 0 by rw [← hw]; exact C4.out.below ((Below.refl _ _).alloc (Nat.le_refl _) _))
  have B5 := Lib.hid (show Below w.heap.size w w5 by rw [← hw]; exact B4.out.alloc B4.out.size _)
  clear C4 B4 R4 hw
  go_wp2_with fail
  refine (sum_pro [49, 50, 51, 52, 53, 54, 55, 56, 57] _ _ (rd_new _ _ _ _ _ (by rfl) (by rfl) (HM.out _ (by decide)) (9, 10)) (by decide)).mono ?_
  rw [ex_sum]
  rintro e w6 ⟨rfl, hw⟩
  have C6 := Lib.hid (show Cur w6 g [172, 2, 7] 0 0 by rw [← hw]; exact C5.out.below ((Below.refl _ _).alloc (Nat.le_refl _) _))
  have B6 := Lib.hid (show Below w.heap.size w w6 by rw [← hw]; exact B5.out.alloc B5.out.size _)
  clear C5 B5 hw
  go_wp2_with fail
  refine (uint_pro g [172, 2, 7] (0, 0) _ C6.out).mono ?_
  rw [ex_u1, ex_u2]
  rintro e w7 ⟨rfl, hc, hg⟩
  have C7 := Lib.hid hc
  have B7 := Lib.hid (B6.out.grown hg B6.out.size (fun k hk => by cases hk; exact GE.out))
  clear hc hg C6 B6
  go_wp2_with fail
  refine (at_pro g [172, 2, 7] 2 0 _ C7.out).mono ?_
  rintro e w8 ⟨rfl, rfl⟩
  go_wp2_with fail
  refine (byte_pro g [172, 2, 7] (2, 0) _ C7.out).mono ?_
  rw [ex_b1, ex_b2]
  rintro e w8 ⟨rfl, hc, hg⟩
  have C8 := Lib.hid hc
  have B8 := Lib.hid (B7.out.grown hg B7.out.size (fun k hk => by cases hk; exact GE.out))
  clear hc hg C7 B7
  go_wp2_with fail
  refine (end_pro g [172, 2, 7] 3 0 _ C8.out).mono ?_
  rw [if_neg (by decide)]
  rintro e w9 ⟨rfl, hb⟩
  have B9 := Lib.hid (B8.out.trans (hb.mono B8.out.size))
  clear hb C8 B8
  go_wp2_with fail
  refine (may_pro ⟨#[97]⟩ _ (by decide) (HT.out.at B9.out)).mono ?_
  rw [ex_may]
  rintro e w10 ⟨rfl, hb⟩
  have B10 := Lib.hid (B9.out.trans (hb.mono B9.out.size))
  clear hb B9
  go_wp2_with fail
  go_ret
  exact ⟨rfl, B10.out⟩
end Go.Proofs.YtcgeldmbndaocaaDoor
