/- The program's Sum of layer 3. -/
import Derived.Test.YtcgeldmbndaocaaDoorOBase
import Derived.Test.YtcgeldmbndaocaaDoorCrc
namespace Go.Proofs.YtcgeldmbndaocaaDoor
open Go.RowKit

theorem reg_snoc (s : Nat) (l : List UInt8) (x : UInt8) : reg s (l ++ [x]) = byt (reg s l) x := by simp [reg, List.foldl_append]
theorem bitN_next (k s : Nat) : bitN (k + 1) s = bit1 (bitN k s) := bitN_add k 1 s

set_option maxRecDepth 100000 in
set_option maxHeartbeats 2000000 in
theorem sum_pro (l : List UInt8) (v : Value) (w : World) (h : Rd w v l) (hl : l.length ≤ 140737488355328) :
    Calls Tryd.prog 10 #[v] w fun e w' => e = .returned (.int .u32 (crc l)) ∧ w = w' := by
  obtain ⟨pa, cap, rfl, hcap, _, hcell⟩ := h
  have HC := Lib.hid hcell
  clear hcell hcap
  go_enter Tryd.func10, Tryd.ntmps10
  go_wp2_with fail
  go_loop [3, 5, 6, 9] (fun s _ _ i => ∃ k : Nat, i = .int .i64 k ∧ k ≤ l.length ∧ s = .int .u32 (reg 4294967295 (l.take k) : Nat)) (fun _ _ _ i => l.length - (intOf i).toNat)
  case atStart => exact ⟨0, rfl, Nat.zero_le _, rfl⟩
  case round =>
    obtain ⟨k, rfl, hk, rfl⟩ := hrel
    have hs := reg_lt (l.take k) (s := 4294967295) (by decide)
    by_cases hlt : k < l.length
    · obtain ⟨b, off, rfl, hx⟩ := HC.out k hlt
      have HE := Lib.hid (take_next hlt)
      obtain ⟨x, ex⟩ : ∃ x, l[k] = x := ⟨_, rfl⟩
      rw [ex] at hx HE
      obtain ⟨s0, es⟩ : ∃ s0, reg 4294967295 (l.take k) = s0 := ⟨_, rfl⟩
      rw [es] at hs ⊢
      have hxl := x.toNat_lt
      have e1 : IntKind.u32.wrap (x.toNat : Int) = x.toNat := by rw [IntKind.wrap_u32']; omega
      have e2 : bits .xor .u32 (s0 : Int) (x.toNat : Int) = (s0 ^^^ x.toNat : Nat) := u32_xor_nat _ _ hs (by omega)
      have HS := Lib.hid (xor_byte_lt x hs)
      have ES := Lib.hid es
      clear ex es
      go_wp2_with fail
      go_loop [3, 6, 17] (fun s _ i => ∃ m : Nat, i = .int .i64 m ∧ m ≤ 8 ∧ s = .int .u32 (bitN m (s0 ^^^ x.toNat) : Nat)) (fun _ _ i => 8 - (intOf i).toNat)
      case atStart => exact ⟨0, rfl, Nat.zero_le _, rfl⟩
      case round =>
        obtain ⟨m, rfl, hm, rfl⟩ := hrel
        have HN := Lib.hid (bitN_next m (s0 ^^^ x.toNat))
        have hz := bitN_lt m HS.out
        obtain ⟨z, ez⟩ : ∃ z, bitN m (s0 ^^^ x.toNat) = z := ⟨_, rfl⟩
        have EZ := Lib.hid ez
        rw [ez] at hz HN ⊢
        clear ez e1 e2
        by_cases hmm : m < 8
        · have f1 : bits .and .u32 (z : Int) 1 = (z % 2 : Nat) := by
            have := u32_and_nat z 1 hz (by decide)
            rw [nat_mask1] at this
            exact this
          have f2 : IntKind.u32.wrap ((z : Int) / 2) = (z / 2 : Nat) := by rw [IntKind.wrap_u32']; omega
          by_cases h2 : z % 2 = 1
          · have h3 : ((z % 2 : Nat) : Int) = 1 := by omega
            rw [h3] at f1
            have f3 : bits .xor .u32 ((z : Int) / 2) 3988292384 = (z / 2 ^^^ 3988292384 : Nat) := u32_xor_nat (z / 2) _ (by omega) (by decide)
            have HB := Lib.hid (show bit1 z = z / 2 ^^^ 3988292384 by unfold bit1; rw [if_pos h2]; rfl)
            clear h2 h3
            go_wp2_with fail
            go_round
            case rel => exact ⟨m + 1, by go_num, by omega, by rw [HN.out, HB.out]⟩
            case measure => simp [intOf]; omega
          · have h3 : ((z % 2 : Nat) : Int) = 0 := by omega
            rw [h3] at f1
            have HB := Lib.hid (show bit1 z = z / 2 by unfold bit1; rw [if_neg h2])
            clear h2 h3
            go_wp2_with fail
            go_round
            case rel => exact ⟨m + 1, by go_num, by omega, by rw [HN.out, HB.out]; rfl⟩
            case measure => simp [intOf]; omega
        · obtain rfl : m = 8 := by omega
          clear hz HN
          go_wp2_with fail
          go_round
          case rel => exact ⟨k + 1, by go_num, by omega, by rw [HE.out, reg_snoc, ES.out]; show _ = Value.int IntKind.u32 ((bitN 8 (s0 ^^^ x.toNat) : Nat) : Int); rw [EZ.out]⟩
          case measure => simp [intOf]; omega
    · obtain rfl : k = l.length := by omega
      have HR := Lib.hid (show l.take l.length = l from List.take_length)
      rw [HR.out] at hs ⊢
      have f1 : bits .xor .u32 IntKind.u32.max (reg 4294967295 l : Nat) = (crc l : Nat) := by
        show bits .xor .u32 4294967295 (reg 4294967295 l : Nat) = (crc l : Nat)
        have := u32_xor_nat 4294967295 _ (by decide) hs
        rw [← compl hs] at this
        exact this
      go_wp2_with fail
      all_goals go_ret
      all_goals first | exact absurd (by assumption : IntKind.u32.signed = true) (by decide) | exact ⟨rfl, rfl⟩

set_option maxRecDepth 100000 in
set_option maxHeartbeats 2000000 in
theorem sum_ref (l : List UInt8) (v : Value) (w : World) (h : Rd w v l) (hl : l.length ≤ 140737488355328) :
    Calls Tryd.prog 12 #[v] w fun e w' => e = .returned (.int .u32 (crc l)) ∧ w = w' := by
  obtain ⟨pa, cap, rfl, hcap, _, hcell⟩ := h
  have HC := Lib.hid hcell
  clear hcell hcap
  go_enter Tryd.func12, Tryd.ntmps12
  go_wp2_with fail
  go_loop [3, 5, 6, 9] (fun s _ _ i => ∃ k : Nat, i = .int .i64 k ∧ k ≤ l.length ∧ s = .int .u32 (reg 4294967295 (l.take k) : Nat)) (fun _ _ _ i => l.length - (intOf i).toNat)
  case atStart => exact ⟨0, rfl, Nat.zero_le _, rfl⟩
  case round =>
    obtain ⟨k, rfl, hk, rfl⟩ := hrel
    have hs := reg_lt (l.take k) (s := 4294967295) (by decide)
    by_cases hlt : k < l.length
    · obtain ⟨b, off, rfl, hx⟩ := HC.out k hlt
      have HE := Lib.hid (take_next hlt)
      obtain ⟨x, ex⟩ : ∃ x, l[k] = x := ⟨_, rfl⟩
      rw [ex] at hx HE
      obtain ⟨s0, es⟩ : ∃ s0, reg 4294967295 (l.take k) = s0 := ⟨_, rfl⟩
      rw [es] at hs ⊢
      have hxl := x.toNat_lt
      have e1 : IntKind.u32.wrap (x.toNat : Int) = x.toNat := by rw [IntKind.wrap_u32']; omega
      have e2 : bits .xor .u32 (s0 : Int) (x.toNat : Int) = (s0 ^^^ x.toNat : Nat) := u32_xor_nat _ _ hs (by omega)
      have HS := Lib.hid (xor_byte_lt x hs)
      have ES := Lib.hid es
      clear ex es
      go_wp2_with fail
      go_loop [3, 6] (fun s i => ∃ m : Nat, i = .int .i64 m ∧ m ≤ 8 ∧ s = .int .u32 (bitN m (s0 ^^^ x.toNat) : Nat)) (fun _ i => 8 - (intOf i).toNat)
      case atStart => exact ⟨0, rfl, Nat.zero_le _, rfl⟩
      case round =>
        obtain ⟨m, rfl, hm, rfl⟩ := hrel
        have HN := Lib.hid (bitN_next m (s0 ^^^ x.toNat))
        have hz := bitN_lt m HS.out
        obtain ⟨z, ez⟩ : ∃ z, bitN m (s0 ^^^ x.toNat) = z := ⟨_, rfl⟩
        have EZ := Lib.hid ez
        rw [ez] at hz HN ⊢
        clear ez e1 e2
        by_cases hmm : m < 8
        · have f1 : bits .and .u32 (z : Int) 1 = (z % 2 : Nat) := by
            have := u32_and_nat z 1 hz (by decide)
            rw [nat_mask1] at this
            exact this
          have f2 : (z : Int).tmod 2 = (z % 2 : Nat) := by rw [Int.tmod_eq_emod_of_nonneg (by omega)]; omega
          by_cases h2 : z % 2 = 1
          · have h3 : ((z % 2 : Nat) : Int) = 1 := by omega
            rw [h3] at f2
            have f3 : bits .xor .u32 ((z : Int) / 2) 3988292384 = (z / 2 ^^^ 3988292384 : Nat) := u32_xor_nat (z / 2) _ (by omega) (by decide)
            have HB := Lib.hid (show bit1 z = z / 2 ^^^ 3988292384 by unfold bit1; rw [if_pos h2]; rfl)
            clear h2 h3
            go_wp2_with fail
            go_round
            case rel => exact ⟨m + 1, by go_num, by omega, by rw [HN.out, HB.out]⟩
            case measure => simp [intOf]; omega
          · have h3 : ((z % 2 : Nat) : Int) = 0 := by omega
            rw [h3] at f2
            have HB := Lib.hid (show bit1 z = z / 2 by unfold bit1; rw [if_neg h2])
            clear h2 h3
            go_wp2_with fail
            go_round
            case rel => exact ⟨m + 1, by go_num, by omega, by rw [HN.out, HB.out]; rfl⟩
            case measure => simp [intOf]; omega
        · obtain rfl : m = 8 := by omega
          clear hz HN
          go_wp2_with fail
          go_round
          case rel => exact ⟨k + 1, by go_num, by omega, by rw [HE.out, reg_snoc, ES.out]; show _ = Value.int IntKind.u32 ((bitN 8 (s0 ^^^ x.toNat) : Nat) : Int); rw [EZ.out]⟩
          case measure => simp [intOf]; omega
    · obtain rfl : k = l.length := by omega
      have HR := Lib.hid (show l.take l.length = l from List.take_length)
      rw [HR.out] at hs ⊢
      have f1 : bits .xor .u32 IntKind.u32.max (reg 4294967295 l : Nat) = (crc l : Nat) := by
        show bits .xor .u32 4294967295 (reg 4294967295 l : Nat) = (crc l : Nat)
        have := u32_xor_nat 4294967295 _ (by decide) hs
        rw [← compl hs] at this
        exact this
      go_wp2_with fail
      all_goals go_ret
      all_goals first | exact absurd (by assumption : IntKind.u32.signed = true) (by decide) | exact ⟨rfl, rfl⟩
end Go.Proofs.YtcgeldmbndaocaaDoor
