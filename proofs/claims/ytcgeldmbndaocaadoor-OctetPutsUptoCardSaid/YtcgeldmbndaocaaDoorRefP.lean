/- The document's answers of layer 3 that lay bytes: Uint, Int, Low, Bytes. -/
import Derived.Test.YtcgeldmbndaocaaDoorPut2
namespace Go.Proofs.YtcgeldmbndaocaaDoor
open Go.RowKit
set_option linter.unusedVariables false

set_option maxRecDepth 100000 in
set_option maxHeartbeats 2000000 in
theorem uintB_ref (n : Nat) (w : World) (hn : n < 18446744073709551616) :
    Calls Tryd.prog 21 #[.int .u64 n] w (Makes (gr n) w) := by
  obtain ⟨i0, hi, hz0, hz1, hz2⟩ := info_parts info5
  go_enter Tryd.func21, Tryd.ntmps21
  go_wp2_with fail
  go_loopw [0, 3] (fun n' v wr => ∃ (m k : Nat) (acc : List UInt8), n' = .int .u64 m ∧ m < 2 * 128 ^ k ∧ acc.length + k = 9 ∧ acc ++ gN k m = gr n ∧ wr.ownsRow w.heap.size 5 1 v acc.length (Lib.byteCells acc) ∧ Below w.heap.size w wr) (fun n' _ _ => (intOf n').toNat)
  case atStart => exact ⟨n, 9, [], rfl, by omega, rfl, rfl, World.ownsRow_nil _ _ _ _, Below.refl _ _⟩
  case round =>
    obtain ⟨m, k, acc, rfl, hm, hk, hacc, hown, hb⟩ := hrel
    have HO := Lib.hid hown
    have HB := Lib.hid hb
    have hmm : m < 18446744073709551616 := by
      have : 128 ^ k ≤ 128 ^ 9 := Nat.pow_le_pow_right (by omega) (by omega)
      omega
    have HS := Lib.hid hb.size
    have HA := Lib.hid hacc
    have HM := Lib.hid hm
    clear hown hb hacc hm
    by_cases h : 128 ≤ m
    · obtain ⟨k, rfl⟩ : ∃ k', k = k' + 1 := ⟨k - 1, by
        have := HM.out
        rcases k with _ | k
        · simp at this; omega
        · omega⟩
      have HG := Lib.hid (show acc ++ [UInt8.ofNat (m % 128 + 128)] ++ gN k (m / 128) = gr n by
        rw [← HA.out]
        show _ = acc ++ (if m < 128 then _ else _)
        rw [if_neg (by omega), List.append_assoc]; rfl)
      have HM2 := Lib.hid (show m / 128 < 2 * 128 ^ k by have := HM.out; rw [Nat.pow_succ] at this; omega)
      have f0 : (m : Int).tmod 128 = (m % 128 : Nat) := by rw [Int.tmod_eq_emod_of_nonneg (by omega)]; omega
      have f1 : IntKind.u8.wrap ((m % 128 : Nat) : Int) = (m % 128 : Nat) := by rw [IntKind.wrap_u8']; omega
      have f2 : IntKind.u8.wrap (((m % 128 : Nat) : Int) + 128) = (m % 128 + 128 : Nat) := by rw [IntKind.wrap_u8']; omega
      obtain ⟨y, ey⟩ : ∃ y, m % 128 = y := ⟨_, rfl⟩
      have hy : y < 128 := by omega
      rw [ey] at HG f0 f1 f2
      have HX := Lib.hid (show (((UInt8.ofNat (y + 128)).toNat : Nat) : Int) = (y : Int) + 128 by rw [u8_of (by omega)]; omega)
      have HL := Lib.hid (show acc.length + 1 ≤ maxLen by unfold maxLen; omega)
      have HL2 := Lib.hid (show (acc.length + 1) * 1 ≤ 140737488355328 by omega)
      have HS2 := Lib.hid (show w.heap.size ≤ (wr.alloc (.cells #[.int .u8 ((y : Int) + 128)] 5)).heap.size by have := HS.out; simp; omega)
      clear ey f1
      go_wp2_with (at_builtin; go_loud (refine wpList_append_own _ rfl _ _ 22 rfl w.heap.size 5 i0 (.int .u8 0) 1 1 Tryd.underlying22 hi hz0 hz1 hz2 rfl (by decide) _ _ _ rfl (HO.out.alloc _) ⟨wr.heap.size, 0, none⟩ 1 1 [.int .u8 ((y : Int) + 128)] rfl rfl (cells_new _ _ _) (by intro u hu; simp at hu; subst hu; rfl) HL.out HL2.out HS2.out ?_); intro v' w1 hown' hgrow _)
      go_roundw
      case rel =>
        refine ⟨m / 128, k, acc ++ [UInt8.ofNat (y + 128)], by go_num, HM2.out, by simp; omega, HG.out, own_grows hown' HX.out, ?_⟩
        exact (HB.out.alloc HS.out _).grown hgrow HS2.out (fun k hk => (HO.out.lt k hk).1)
      case measure => simp [intOf]; omega
    · have HX := Lib.hid (show (((UInt8.ofNat m).toNat : Nat) : Int) = (m : Int) by rw [u8_of (by omega)])
      have HG := Lib.hid (show acc ++ [UInt8.ofNat m] = gr n by
        rw [← HA.out]
        rcases k with _ | k
        · rfl
        · show _ = acc ++ (if m < 128 then _ else _)
          rw [if_pos (by omega)])
      have HL := Lib.hid (show acc.length + 1 ≤ maxLen by unfold maxLen; omega)
      have HL2 := Lib.hid (show (acc.length + 1) * 1 ≤ 140737488355328 by omega)
      have HS2 := Lib.hid (show w.heap.size ≤ (wr.alloc (.cells #[.int .u8 (m : Int)] 5)).heap.size by have := HS.out; simp; omega)
      go_wp2_with (at_builtin; go_loud (refine wpList_append_own _ rfl _ _ 22 rfl w.heap.size 5 i0 (.int .u8 0) 1 1 Tryd.underlying22 hi hz0 hz1 hz2 rfl (by decide) _ _ _ rfl (HO.out.alloc _) ⟨wr.heap.size, 0, none⟩ 1 1 [.int .u8 (m : Int)] rfl rfl (cells_new _ _ _) (by intro u hu; simp at hu; subst hu; rfl) HL.out HL2.out HS2.out ?_); intro v' w1 hown' hgrow _)
      go_ret
      exact ⟨v', rfl, by rw [← HG.out]; exact own_grows hown' HX.out, (HB.out.alloc HS.out _).grown hgrow HS2.out (fun k hk => (HO.out.lt k hk).1)⟩

set_option maxRecDepth 100000 in
set_option maxHeartbeats 2000000 in
theorem intB_ref (i : Int) (w : World) (hi : -9223372036854775808 ≤ i ∧ i ≤ 9223372036854775807) :
    Calls Tryd.prog 22 #[.int .i64 i] w (Makes (gr (zz i)) w) := by
  have HZ := Lib.hid (show zz i < 18446744073709551616 by unfold zz; split <;> omega)
  by_cases h0 : 0 ≤ i
  · have E : 2 * i = (zz i : Nat) := by unfold zz; rw [if_neg (by omega)]; omega
    go_enter Tryd.func22, Tryd.ntmps22
    go_wp2_with fail
    refine (uintB_ref _ _ HZ.out).mono ?_
    rintro e w2 ⟨v2, rfl, h2, hb2⟩
    have O2 := Lib.hid h2
    have B2 := Lib.hid hb2
    clear h2 hb2
    go_wp2_with fail
    go_ret
    exact ⟨_, rfl, O2.out, B2.out⟩
  · have E : 2 * -(i + 1) + 1 = (zz i : Nat) := by unfold zz; rw [if_pos (by omega)]; omega
    go_enter Tryd.func22, Tryd.ntmps22
    go_wp2_with fail
    refine (uintB_ref _ _ HZ.out).mono ?_
    rintro e w2 ⟨v2, rfl, h2, hb2⟩
    have O2 := Lib.hid h2
    have B2 := Lib.hid hb2
    clear h2 hb2
    go_wp2_with fail
    go_ret
    exact ⟨_, rfl, O2.out, B2.out⟩
set_option maxRecDepth 100000 in
set_option maxHeartbeats 2000000 in
theorem lowB_ref (n many : Nat) (w : World) (hn : n < 18446744073709551616) (hm : many ≤ 8) :
    Calls Tryd.prog 23 #[.int .u64 n, .int .i64 many] w (Makes (lo many n) w) := by
  obtain ⟨i0, hi, hz0, hz1, hz2⟩ := info_parts info5
  go_enter Tryd.func23, Tryd.ntmps23
  go_wp2_with fail
  go_loopw [0, 5, 6] (fun n' v i wr => ∃ (m k : Nat) (acc : List UInt8), n' = .int .u64 m ∧ i = .int .i64 k ∧ k ≤ many ∧ m < 18446744073709551616 ∧ acc.length = k ∧ acc ++ lo (many - k) m = lo many n ∧ wr.ownsRow w.heap.size 5 1 v acc.length (Lib.byteCells acc) ∧ Below w.heap.size w wr) (fun _ _ i _ => many - (intOf i).toNat)
  case atStart => exact ⟨n, 0, [], rfl, rfl, by omega, hn, rfl, rfl, World.ownsRow_nil _ _ _ _, Below.refl _ _⟩
  case round =>
    obtain ⟨m, k, acc, rfl, rfl, hk, hmm, hlen, hacc, hown, hb⟩ := hrel
    have HO := Lib.hid hown
    have HB := Lib.hid hb
    have HS := Lib.hid hb.size
    have HA := Lib.hid hacc
    have HLE := Lib.hid hlen
    clear hown hb hacc
    by_cases h : k < many
    · have hlo : lo (many - k) m = UInt8.ofNat (m % 256) :: lo (many - (k + 1)) (m / 256) := by
        rw [show many - k = (many - (k + 1)) + 1 by omega]; rfl
      have HG := Lib.hid (show acc ++ [UInt8.ofNat (m % 256)] ++ lo (many - (k + 1)) (m / 256) = lo many n by
        rw [← HA.out, hlo, List.append_assoc]; rfl)
      have f0 : (m : Int).tmod 256 = (m % 256 : Nat) := by rw [Int.tmod_eq_emod_of_nonneg (by omega)]; omega
      have f1 : IntKind.u8.wrap ((m % 256 : Nat) : Int) = (m % 256 : Nat) := by rw [IntKind.wrap_u8']; omega
      obtain ⟨y, ey⟩ : ∃ y, m % 256 = y := ⟨_, rfl⟩
      have hy : y < 256 := by omega
      rw [ey] at HG f0 f1
      have HX := Lib.hid (show (((UInt8.ofNat y).toNat : Nat) : Int) = (y : Int) by rw [u8_of (by omega)])
      have HL := Lib.hid (show acc.length + 1 ≤ maxLen by unfold maxLen; omega)
      have HL2 := Lib.hid (show (acc.length + 1) * 1 ≤ 140737488355328 by omega)
      have HS2 := Lib.hid (show w.heap.size ≤ (wr.alloc (.cells #[.int .u8 (y : Int)] 5)).heap.size by have := HS.out; simp; omega)
      clear ey hlo hlen
      go_wp2_with (at_builtin; go_loud (refine wpList_append_own _ rfl _ _ 22 rfl w.heap.size 5 i0 (.int .u8 0) 1 1 Tryd.underlying22 hi hz0 hz1 hz2 rfl (by decide) _ _ _ rfl (HO.out.alloc _) ⟨wr.heap.size, 0, none⟩ 1 1 [.int .u8 (y : Int)] rfl rfl (cells_new _ _ _) (by intro u hu; simp at hu; subst hu; rfl) HL.out HL2.out HS2.out ?_); intro v' w1 hown' hgrow _)
      go_roundw
      case rel =>
        refine ⟨m / 256, k + 1, acc ++ [UInt8.ofNat y], by go_num, by go_num, by omega, by omega, by rw [List.length_append, HLE.out]; rfl, HG.out, own_grows hown' HX.out, ?_⟩
        exact (HB.out.alloc HS.out _).grown hgrow HS2.out (fun k hk => (HO.out.lt k hk).1)
      case measure => simp [intOf]; omega
    · have HG := Lib.hid (show acc = lo many n by
        have h1 := HA.out
        rw [show many - k = 0 by omega] at h1
        rw [← h1]; exact (List.append_nil _).symm)
      clear hlen
      go_wp2_with fail
      go_ret
      exact ⟨_, rfl, by rw [← HG.out]; exact HO.out, HB.out⟩
set_option maxRecDepth 100000 in
set_option maxHeartbeats 2000000 in
theorem bytesB_ref (p : List UInt8) (v : Value) (w : World) (h : Rd w v p) (hl : p.length ≤ 140737488000000) :
    Calls Tryd.prog 24 #[v] w (Makes (pb p) w) := by
  obtain ⟨i0, hi, hz0, hz1, hz2⟩ := info_parts info5
  have H := Lib.hid h
  obtain ⟨pa, cap, rfl, hc, hcm⟩ := h.form
  have L3 := Lib.hid (show p.length < 18446744073709551616 by omega)
  have e1 : IntKind.u64.wrap (p.length : Int) = p.length := by rw [IntKind.wrap_u64]; omega
  have GL := gr_len p.length
  have M1 := Lib.hid (show (gr p.length).length + p.length ≤ maxLen by unfold maxLen; omega)
  have M2 := Lib.hid (show ((gr p.length).length + p.length) * 1 ≤ 140737488355328 by omega)
  have M3 := Lib.hid (show (Lib.byteCells p).length = p.length * 1 by rw [Lib.byteCells_length]; omega)
  have O1 := Lib.hid (byteCells_one p)
  cases pa with
  | none =>
    have h0 : p = [] := by
      rcases p with _ | ⟨x, l⟩
      · rfl
      · obtain ⟨ad, h1, _⟩ := rd_cells H.out (by simp [Lib.byteCells])
        cases h1
    subst h0
    clear h hc hcm hl GL
    go_enter Tryd.func24, Tryd.ntmps24
    go_wp2_with fail
    refine (uintB_ref 0 _ L3.out).mono ?_
    rintro e w1 ⟨v1, rfl, h1, hb1⟩
    rcases h1.2 with ⟨_, h0⟩ | ⟨g1, c1, cur, rfl, _, _, k1, _⟩
    · exact absurd h0 (by decide)
    have W1 := Lib.hid h1
    have B1 := Lib.hid hb1
    clear h1 hb1
    go_wp2_with fail
    go_ret
    exact ⟨_, rfl, by rw [show pb [] = gr 0 from List.append_nil _]; exact W1.out, B1.out⟩
  | some ad =>
    clear h hc hcm hl
    go_enter Tryd.func24, Tryd.ntmps24
    go_wp2_with fail
    refine (uintB_ref p.length _ L3.out).mono ?_
    rintro e w1 ⟨v1, rfl, h1, hb1⟩
    have W1 := Lib.hid h1
    have B1 := Lib.hid hb1
    have S1 := Lib.hid hb1.size
    have C := Lib.hid (show ∀ j u, (Lib.byteCells p)[j]? = some u → w1.cell? (ad.add j) = some u by
      intro j u hu
      obtain ⟨ad', e, hc⟩ := rd_cells (H.out.below hb1) (by rcases p with _ | ⟨x, l⟩ <;> simp_all [Lib.byteCells])
      cases e
      exact hc j u hu)
    clear h1 hb1
    go_wp2_with (at_builtin; go_loud (refine wpList_append_own _ rfl _ _ 22 rfl w.heap.size 5 i0 (.int .u8 0) 1 1 Tryd.underlying22 hi hz0 hz1 hz2 rfl (by decide) _ _ _ rfl W1.out ad p.length cap (Lib.byteCells p) rfl M3.out C.out O1.out M1.out M2.out S1.out ?_); intro v' w2 hown' hgrow _)
    go_ret
    refine ⟨v', rfl, ?_, B1.out.grown hgrow S1.out (fun k hk => (W1.out.lt k hk).1)⟩
    unfold pb
    rw [Lib.byteCells_append, List.length_append]
    exact hown'
end Go.Proofs.YtcgeldmbndaocaaDoor
