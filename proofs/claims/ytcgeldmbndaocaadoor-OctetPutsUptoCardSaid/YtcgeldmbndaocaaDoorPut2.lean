/- The program's Put16, Put32, PutBytes, PutText of layer 3. -/
import Derived.Test.YtcgeldmbndaocaaDoorPiece
import Derived.Lib.ConvBytes
namespace Go.Proofs.YtcgeldmbndaocaaDoor
open Go.RowKit

theorem lo_cells0 (n : Nat) : Lib.byteCells (lo 0 n) = [] := rfl

set_option maxRecDepth 100000 in
set_option maxHeartbeats 2000000 in
theorem put16_pro (l : List UInt8) (v : Value) (n : Nat) (w : World) (h : Rd w v l) (hl : l.length ≤ 281474976710000) (hn : n < 65536) :
    Calls Tryd.prog 17 #[v, .int .u16 n] w (Makes (l ++ lo 2 n) w) := by
  have H := Lib.hid h
  have HL := Lib.hid (show l.length + (lo 2 n).length ≤ 281474976710656 by rw [lo_len]; omega)
  have hm : (2 : Nat) ≤ maxLen := by unfold maxLen; omega
  have HM := Lib.hid hm
  have HC := Lib.hid (show Lib.byteCells (lo 2 n) = [.int .u8 ((n : Int) % 256), .int .u8 (((n : Int) / 256) % 256)] by
    rw [lo_cells, lo_cells, lo_cells0]
    rfl)
  have e1 : IntKind.u8.wrap (n : Int) = (n : Int) % 256 := IntKind.wrap_u8' _
  have e2 : IntKind.u16.wrap ((n : Int) / 256) = (n : Int) / 256 := by rw [IntKind.wrap_u16]; omega
  have e3 : IntKind.u8.wrap ((n : Int) / 256) = ((n : Int) / 256) % 256 := IntKind.wrap_u8' _
  clear h hl hm
  go_enter Tryd.func17, Tryd.ntmps17
  go_wp2_with fail
  refine (joined_pro l (lo 2 n) _ _ _ (H.out.below ((Below.refl _ _).alloc (Nat.le_refl _) _)) (rd_new _ _ _ _ _ (by rw [HC.out]) (by rw [lo_len]) HM.out) HL.out).mono ?_
  rintro e w2 ⟨v2, rfl, h2, hb2⟩
  have O2 := Lib.hid h2
  have B2 := Lib.hid (((Below.refl w.heap.size w).alloc (Nat.le_refl _) _).trans (hb2.mono (by simp)))
  clear h2 hb2
  go_wp2_with fail
  go_ret
  exact ⟨_, rfl, own_mono O2.out (by simp), B2.out⟩
set_option maxRecDepth 100000 in
set_option maxHeartbeats 2000000 in
theorem put32_pro (l : List UInt8) (v : Value) (n : Nat) (w : World) (h : Rd w v l) (hl : l.length ≤ 281474976710000) (hn : n < 4294967296) :
    Calls Tryd.prog 18 #[v, .int .u32 n] w (Makes (l ++ lo 4 n) w) := by
  have H := Lib.hid h
  have HL := Lib.hid (show l.length + (lo 4 n).length ≤ 281474976710656 by rw [lo_len]; omega)
  have hm : (4 : Nat) ≤ maxLen := by unfold maxLen; omega
  have HM := Lib.hid hm
  have HC := Lib.hid (show Lib.byteCells (lo 4 n) = [.int .u8 ((n : Int) % 256), .int .u8 (((n : Int) / 256) % 256), .int .u8 (((n : Int) / 65536) % 256), .int .u8 (((n : Int) / 16777216) % 256)] by
    rw [lo_cells, lo_cells, lo_cells, lo_cells, lo_cells0]
    have q1 : n / 256 / 256 = n / 65536 := by rw [Nat.div_div_eq_div_mul]
    have q2 : n / 256 / 256 / 256 = n / 16777216 := by rw [Nat.div_div_eq_div_mul, Nat.div_div_eq_div_mul]
    rw [q2, q1]
    rfl)
  have e1 : IntKind.u8.wrap (n : Int) = (n : Int) % 256 := IntKind.wrap_u8' _
  have e2 : IntKind.u32.wrap ((n : Int) / 256) = (n : Int) / 256 := by rw [IntKind.wrap_u32']; omega
  have e3 : IntKind.u8.wrap ((n : Int) / 256) = ((n : Int) / 256) % 256 := IntKind.wrap_u8' _
  have e4 : IntKind.u32.wrap ((n : Int) / 65536) = (n : Int) / 65536 := by rw [IntKind.wrap_u32']; omega
  have e5 : IntKind.u8.wrap ((n : Int) / 65536) = ((n : Int) / 65536) % 256 := IntKind.wrap_u8' _
  have e6 : IntKind.u32.wrap ((n : Int) / 16777216) = (n : Int) / 16777216 := by rw [IntKind.wrap_u32']; omega
  have e7 : IntKind.u8.wrap ((n : Int) / 16777216) = ((n : Int) / 16777216) % 256 := IntKind.wrap_u8' _
  clear h hl hm
  go_enter Tryd.func18, Tryd.ntmps18
  go_wp2_with fail
  refine (joined_pro l (lo 4 n) _ _ _ (H.out.below ((Below.refl _ _).alloc (Nat.le_refl _) _)) (rd_new _ _ _ _ _ (by rw [HC.out]) (by rw [lo_len]) HM.out) HL.out).mono ?_
  rintro e w2 ⟨v2, rfl, h2, hb2⟩
  have O2 := Lib.hid h2
  have B2 := Lib.hid (((Below.refl w.heap.size w).alloc (Nat.le_refl _) _).trans (hb2.mono (by simp)))
  clear h2 hb2
  go_wp2_with fail
  go_ret
  exact ⟨_, rfl, own_mono O2.out (by simp), B2.out⟩
/-- Bytes with how many they are. -/
def pb (p : List UInt8) : List UInt8 := gr p.length ++ p
theorem pb_len (p : List UInt8) : (pb p).length ≤ p.length + 10 := by
  have := gr_len p.length
  simp only [pb, List.length_append]; omega
set_option maxRecDepth 100000 in
set_option maxHeartbeats 2000000 in
theorem putBytes_pro (l p : List UInt8) (v vp : Value) (w : World) (h : Rd w v l) (hp : Rd w vp p) (hl : l.length + p.length ≤ 281474976710000) :
    Calls Tryd.prog 19 #[v, vp] w (Makes (l ++ pb p) w) := by
  have H := Lib.hid h
  have HP := Lib.hid hp
  obtain ⟨pp, cp, rfl, _⟩ := hp.form
  have L1 := Lib.hid (show (gr p.length).length + p.length ≤ 281474976710656 by have := gr_len p.length; omega)
  have L2 := Lib.hid (show l.length + (pb p).length ≤ 281474976710656 by have := pb_len p; omega)
  have L3 := Lib.hid (show p.length < 18446744073709551616 by omega)
  have e1 : IntKind.u64.wrap (p.length : Int) = p.length := by rw [IntKind.wrap_u64]; omega
  clear h hp hl
  go_enter Tryd.func19, Tryd.ntmps19
  go_wp2_with fail
  refine (groups_pro p.length _ L3.out).mono ?_
  rintro e w1 ⟨v1, rfl, h1, hb1⟩
  have O1 := Lib.hid (Rd.own h1)
  have H1 := Lib.hid (H.out.below hb1)
  have P1 := Lib.hid (HP.out.below hb1)
  have B1 := Lib.hid hb1
  clear h1 hb1
  go_wp2_with fail
  refine (joined_pro (gr p.length) p _ _ _ O1.out P1.out L1.out).mono ?_
  rintro e w2 ⟨v2, rfl, h2, hb2⟩
  have O2 := Lib.hid (Rd.own h2)
  have H2 := Lib.hid (H1.out.below hb2)
  have B2 := Lib.hid (B1.out.trans (hb2.mono B1.out.size))
  clear h2 hb2
  go_wp2_with fail
  refine (joined_pro l (pb p) _ _ _ H2.out O2.out L2.out).mono ?_
  rintro e w3 ⟨v3, rfl, h3, hb3⟩
  have O3 := Lib.hid h3
  have B3 := Lib.hid (B2.out.trans (hb3.mono B2.out.size))
  have S2 := Lib.hid B2.out.size
  clear h3 hb3
  go_wp2_with fail
  go_ret
  exact ⟨_, rfl, own_mono O3.out S2.out, B3.out⟩

theorem rd_text (w : World) (s : ByteArray) (hs : s.size ≤ maxLen) : Rd (Lib.bytesWorld w 5 s) (.slice (some ⟨w.heap.size, 0, none⟩) s.size (grownCap w s.size 0 5)) s.data.toList := by
  have hl : s.data.toList.length = s.size := by rw [Array.length_toList]; rfl
  refine ⟨_, _, by rw [hl], by rw [hl]; exact grownCap_ge w _ _ _, grownCap_le_maxLen w _ _ _ hs, fun j hj => ⟨_, 0, rfl, ?_⟩⟩
  rw [Nat.zero_add, Lib.bytesWorld_cell w 5 s j (by rw [← hl]; exact hj)]
  congr 3
  simp [List.getD, List.getElem?_eq_getElem hj]
theorem below_text (w : World) (s : ByteArray) : Below w.heap.size w (Lib.bytesWorld w 5 s) :=
  ⟨rfl, rfl, rfl, by rw [Lib.bytesWorld_size]; omega, fun k hk => Lib.bytesWorld_at_old w _ s k hk⟩
set_option maxRecDepth 100000 in
set_option maxHeartbeats 2000000 in
theorem putText_pro (l : List UInt8) (s : ByteArray) (v : Value) (w : World) (h : Rd w v l) (hl : l.length + s.size ≤ 281474976710000) :
    Calls Tryd.prog 20 #[v, .string s] w (Makes (l ++ pb s.data.toList) w) := by
  have H := Lib.hid h
  have hz : s.data.toList.length = s.size := by rw [Array.length_toList]; rfl
  have L1 := Lib.hid (show s.size ≤ maxLen by unfold maxLen; omega)
  have L2 := Lib.hid (show l.length + s.data.toList.length ≤ 281474976710000 by omega)
  clear h hl hz
  go_enter Tryd.func20, Tryd.ntmps20
  go_wp2_with fail
  rw [Lib.run_convert_string_bytes w 9 22 5 s Tryd.underlying9 Tryd.underlying22 Tryd.underlying5]
  simp only [Result.andThen]
  rw [Oper.upon_value]
  have R1 := Lib.hid (rd_text w s L1.out)
  have H1 := Lib.hid (H.out.below (below_text w s))
  have B1 := Lib.hid (below_text w s)
  obtain ⟨w1, hw1⟩ : ∃ w1, Lib.bytesWorld w 5 s = w1 := ⟨_, rfl⟩
  obtain ⟨cap, hcap⟩ : ∃ cap, grownCap w s.size 0 5 = cap := ⟨_, rfl⟩
  rw [hw1] at R1 H1 B1 ⊢
  rw [hcap] at R1 ⊢
  clear hw1 hcap
  go_wp2_with fail
  refine (putBytes_pro l s.data.toList _ _ _ H1.out R1.out L2.out).mono ?_
  rintro e w3 ⟨v3, rfl, h3, hb3⟩
  have O3 := Lib.hid h3
  have B3 := Lib.hid (B1.out.trans (hb3.mono B1.out.size))
  have S2 := Lib.hid B1.out.size
  clear h3 hb3
  go_wp2_with fail
  go_ret
  exact ⟨_, rfl, own_mono O3.out S2.out, B3.out⟩
end Go.Proofs.YtcgeldmbndaocaaDoor
