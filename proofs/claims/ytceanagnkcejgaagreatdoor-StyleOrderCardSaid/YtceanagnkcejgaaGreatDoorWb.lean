/- The program's writeBits. -/
import Derived.Test.YtceanagnkcejgaaGreatDoorPar
import Derived.Test.YtceanagnkcejgaaGreatDoorBlds
namespace Go.Proofs.YtceanagnkcejgaaGreatDoor
open Go.RowKit
set_option linter.unusedVariables false

theorem bit_test (m k : Nat) (hm : m < 128) (hk : k < 7) : (bits .and .i64 (m : Int) (wrap64 (2 ^ k)) != 0) = m.testBit k := by
  have h1 : wrap64 ((2 : Int) ^ k) = ((2 ^ k : Nat) : Int) := by
    have h7 : k = 0 ∨ k = 1 ∨ k = 2 ∨ k = 3 ∨ k = 4 ∨ k = 5 ∨ k = 6 := by omega
    rcases h7 with rfl | rfl | rfl | rfl | rfl | rfl | rfl <;> (unfold wrap64; decide)
  have hp : (2 ^ k : Nat) < 2 ^ 7 := Nat.pow_lt_pow_right (by decide) hk
  rw [h1, nand _ _ (by omega) (by omega)]
  cases hb : m.testBit k with
  | false => rw [pow_and hb]; rfl
  | true =>
    have : m &&& 2 ^ k ≠ 0 := by
      intro e
      have := congrArg (fun x => x.testBit k) e
      simp [Nat.testBit_and, hb] at this
    simp
    omega
theorem attr_len : ∀ k, k < 7 → (attrW.getD k []).length ≤ 7 := by decide
theorem bitsT_len (sg : UInt8) (m : Nat) : ∀ k, k ≤ 7 → (bitsT sg m k).length ≤ 9 * k
  | 0, _ => by simp [bitsT]
  | k + 1, h => by
    have ih := bitsT_len sg m k (by omega)
    have ha := attr_len k (by omega)
    have hb : (bitT sg m k).length ≤ 9 := by
      unfold bitT
      split
      · simp only [List.length_cons]; omega
      · simp
    simp only [bitsT, List.length_append]
    omega
theorem strCells_bs (l : List UInt8) : Lib.strCells (bs l) = Lib.byteCells l := rfl
theorem byteCells_app (a b : List UInt8) : Lib.byteCells (a ++ b) = Lib.byteCells a ++ Lib.byteCells b := by simp [Lib.byteCells]
theorem bs_app (a b : List UInt8) : bs a ++ bs b = bs (a ++ b) := by
  apply ByteArray.ext
  apply Array.ext'
  rw [ByteArray.data_append]
  simp [bs]

set_option maxRecDepth 100000 in
set_option maxHeartbeats 4000000 in
theorem writeBits_pro (B b : Nat) (l : List UInt8) (sg : UInt8) (m : Nat) (w0 w : World) (h : BIs B b (Lib.byteCells l) w) (hm : m < 128) (hl : l.length ≤ 100000) (hBw : B ≤ w.heap.size) (hT : Tabs w0) (h0 : w0.heap.size ≤ B) (hb0 : Below B w0 w) :
    Calls Tryz.prog 49 #[.pointer (some ⟨b, 0, none⟩), .string (bs [32, sg]), .int .i64 m] w fun e w' => e = .returned (.tuple #[]) ∧ BIs B b (Lib.byteCells (l ++ bitsT sg m 7)) w' ∧ Below B w w' := by
  have HT := Lib.hid hT
  have H := Lib.hid h
  have HB0 := Lib.hid hb0
  clear hT h hb0
  go_enter Tryz.func49, Tryz.ntmps49
  go_wp2_with fail
  go_loopw [6, 7] (fun _ i wr => ∃ k : Nat, k ≤ 7 ∧ i = .int .i64 k ∧ Hid (BIs B b (Lib.byteCells (l ++ bitsT sg m k)) wr) ∧ Hid (Below B w wr)) (fun _ i _ => 7 - (intOf i).toNat)
  case atStart => exact ⟨0, by omega, rfl, by simpa [bitsT] using H, Below.refl _ _⟩
  case round =>
    obtain ⟨k, hk, rfl, HBk, HBl⟩ := hrel
    by_cases hlt : k < 7
    · have c0 := (HT.out.below (HB0.out.trans HBl.out) h0).att k hlt
      have ht := bit_test m k hm hlt
      obtain ⟨x, hx⟩ : ∃ x, attrW.getD k [] = x := ⟨_, rfl⟩
      have HXX := Lib.hid hx
      rw [hx] at c0
      have hxl : x.length ≤ 7 := by rw [← hx]; exact attr_len k hlt
      have hz1 := bs_len x
      have hz2 : (bs [32, sg]).size = 2 := rfl
      have HBL := Lib.hid (bitsT_len sg m k (by omega))
      clear hx
      cases hb : m.testBit k with
      | false =>
        rw [hb] at ht
        have HN := Lib.hid (show bitsT sg m (k + 1) = bitsT sg m k by simp [bitsT, bitT, hb])
        clear hb
        go_wp2_with fail
        go_roundw
        case rel => exact ⟨k + 1, by omega, by go_num, by rw [HN.out]; exact HBk, HBl⟩
        case measure => simp [intOf]; omega
      | true =>
        rw [hb] at ht
        have HN := Lib.hid (show bitsT sg m (k + 1) = bitsT sg m k ++ 32 :: sg :: x by rw [← HXX.out]; simp [bitsT, bitT, hb])
        have e1 := bs_app [32, sg] x
        clear hb
        go_wp2_with fail
        refine (str_pro B b _ (bs (32 :: sg :: x)) wr HBk.out ?_ (by have := HBl.out.size; omega)).mono ?_
        · have h1 := HBL.out
          have h2 := bs_len (32 :: sg :: x)
          rw [h2, Lib.byteCells_length]
          simp only [List.length_append, List.length_cons]
          omega
        rintro e w4 ⟨rfl, h2⟩
        have HB4 := Lib.hid (HBl.out.trans h2.2.1)
        have HI := Lib.hid (show BIs B b (Lib.byteCells (l ++ bitsT sg m (k + 1))) w4 by
          have h3 := h2.1
          rw [strCells_bs, ← byteCells_app, List.append_assoc] at h3
          rw [HN.out]
          exact .inr h3)
        clear h2
        go_wp2_with fail
        go_roundw
        case rel => exact ⟨k + 1, by omega, by go_num, HI, HB4⟩
        case measure => simp [intOf]; omega
    · obtain rfl : k = 7 := by omega
      go_wp2_with fail
      go_end0
      exact ⟨rfl, HBk.out, HBl.out⟩
end Go.Proofs.YtceanagnkcejgaaGreatDoor
