/- The program's Fold of layer 2: a builder in a range over a text. -/
import Derived.Test.YtoeknophfcfahaaGreatDoorPgoodn
import Derived.Test.YtoeknophfcfahaaGreatDoorBldn
import Derived.Test.YtoeknophfcfahaaGreatDoorFoldn
import Derived.Test.YtoeknophfcfahaaGreatDoorOrdn
namespace Go.Proofs.YtoeknophfcfahaaGreatDoor
open Go.RowKit Go.Maps

theorem enc_len_le (r : Int) : (Lib.encodeRune r).length ≤ 4 := by
  have := Lib.runeCells_le r
  rw [Lib.runeCells_length] at this
  exact this.2
/-- The library's bytes of a code point are the model's. -/
theorem byte_of {a : Int} {n : Nat} (h : a = n) : a.toNat.toUInt8 = UInt8.ofNat n := by subst h; rfl
theorem enc_rune (r : Int) : (⟨(Lib.encodeRune r).toArray⟩ : ByteArray) = Utf8.encode r := by
  by_cases hbad : r < 0 ∨ (55296 ≤ r ∧ r ≤ 57343) ∨ 1114111 < r
  · have hv : Utf8.valid r = false := by
      simp only [Utf8.valid, Bool.or_eq_false_iff, Bool.and_eq_false_iff, decide_eq_false_iff_not]
      omega
    unfold Lib.encodeRune Utf8.encode
    rw [Lib.encodeRuneZ_bad hbad]
    simp only [hv, Bool.false_eq_true, if_false]
    rfl
  · have hv : Utf8.valid r = true := by
      simp only [Utf8.valid, Bool.or_eq_true, Bool.and_eq_true, decide_eq_true_eq]
      omega
    obtain ⟨n, rfl⟩ : ∃ n : Nat, r = n := ⟨r.toNat, by omega⟩
    unfold Lib.encodeRune Utf8.encode
    simp only [hv, if_true, Int.toNat_natCast]
    by_cases h1 : n < 128
    · rw [Lib.encodeRuneZ_one (by omega) (by omega), if_pos (by omega)]
      rfl
    · by_cases h2 : n < 2048
      · rw [Lib.encodeRuneZ_two (by omega) (by omega), if_neg (by omega), if_pos (by omega)]
        simp only [List.map_cons, List.map_nil]
        rw [byte_of (n := 0xC0 + n / 64) (by omega), byte_of (n := 0x80 + n % 64) (by omega)]
      · by_cases h3 : n < 65536
        · rw [Lib.encodeRuneZ_three (by omega), if_neg (by omega), if_neg (by omega), if_pos (by omega)]
          simp only [List.map_cons, List.map_nil]
          rw [byte_of (n := 0xE0 + n / 4096) (by omega), byte_of (n := 0x80 + n / 64 % 64) (by omega), byte_of (n := 0x80 + n % 64) (by omega)]
        · rw [Lib.encodeRuneZ_four (by omega) (by omega), if_neg (by omega), if_neg (by omega), if_neg (by omega)]
          simp only [List.map_cons, List.map_nil]
          rw [byte_of (n := 0xF0 + n / 262144) (by omega), byte_of (n := 0x80 + n / 4096 % 64) (by omega), byte_of (n := 0x80 + n / 64 % 64) (by omega), byte_of (n := 0x80 + n % 64) (by omega)]
theorem foldCh_list (s : ByteArray) (c : Ch) (h : c.1 < s.size) : (foldCh s c).data.toList = if badB c then [s[c.1]] else Lib.encodeRune (sml c.2.1) := by
  unfold foldCh
  split
  · rw [Lib.extract_data]
    have h' : c.1 < s.data.toList.length := by rw [← Lib.size_eq]; exact h
    rw [List.drop_eq_getElem_cons h']
    simp
    rfl
  · rw [← enc_rune]

theorem bis_below {B b : Nat} {bs : List Value} {w w' : World} (h : BIs B b bs w) (hb : Below w.heap.size w w') : BIs B b bs w' := by
  have hg : w.grownBy w' none := ⟨hb.os, hb.tape, hb.output, hb.size, fun k hk _ => hb.block k hk⟩
  have go : ∀ p, Lib.BuilderAtF 144 5 B b p bs w → Lib.BuilderAtF 144 5 B b p bs w' := by
    rintro p ⟨h1, v, hk, ho, hne⟩
    exact ⟨h1, v, (hb.block b (Array.getElem?_eq_some_iff.1 hk).1).trans hk, ho.kept hg (by cases hv : v.ownBlock <;> simp), hne⟩
  exact h.imp (go _) (go _)
/-- The cells of the bytes of a text. -/
def bcs (t : ByteArray) : List Value := Lib.byteCells t.data.toList
theorem bcs_len (t : ByteArray) : (bcs t).length = t.size := by unfold bcs; rw [Lib.byteCells_length, ← Lib.size_eq]
theorem bcs_app (a b : ByteArray) : bcs (a ++ b) = bcs a ++ bcs b := by unfold bcs; rw [ByteArray.data_append, Array.toList_append, Lib.byteCells_append]
theorem bcs_enc (r : Int) : bcs (Utf8.encode r) = Lib.runeCells r := by rw [← enc_rune]; unfold bcs; rw [← Lib.byteCells_encodeRune]
theorem bcs_one (s : ByteArray) (k : Nat) (h : k < s.size) : bcs (s.extract k (k + 1)) = [.int .u8 s[k].toNat] := by
  have h1 : (s.extract k (k + 1)).data.toList = [s[k]] := by
    rw [Lib.extract_data]
    have h' : k < s.data.toList.length := by rw [← Lib.size_eq]; exact h
    rw [List.drop_eq_getElem_cons h']
    simp
    rfl
  unfold bcs
  rw [h1]; rfl
theorem bcs_blank : bcs ⟨#[32]⟩ = [.int .u8 32] := rfl
theorem enc_size (r : Int) : (Utf8.encode r).size ≤ 4 := encode_size_le r

theorem ext_one (s : ByteArray) (k : Nat) : (s.extract k (k + 1)).size ≤ 1 := by rw [ByteArray.size_extract]; omega
theorem emptyB (t : ByteArray) : (!t.toList.isEmpty) = decide (0 < t.size) := by
  by_cases h : 0 < t.size
  · rw [notEmpty h]; simp [h]
  · have h0 : t.toList = [] := by rw [ByteArray.toList_eq]; exact List.eq_nil_of_length_eq_zero (by rw [← Lib.size_eq]; omega)
    rw [h0]; simp [h]
/-- What the loop of Fold holds between two rounds. -/
def FoldI (s : ByteArray) (w : World) (pos fuel : Nat) (out : ByteArray) (wt : Bool) (wr : World) : Prop :=
  ∃ done : List Ch, BIs w.heap.size w.heap.size (bcs out) wr ∧ wr.heap[w.heap.size + 1]? = some (.stringIter s pos) ∧ Below w.heap.size w wr ∧ foldOf s done = (out, wt) ∧ done ++ chs s fuel pos = chars s ∧ s.size ≤ pos + fuel ∧ out.size ≤ 5 * pos ∧ pos ≤ s.size
theorem foldOf_snoc (s : ByteArray) (l : List Ch) (c : Ch) : foldOf s (l ++ [c]) = foldStep s (foldOf s l) c := by unfold foldOf; rw [List.foldl_append]; rfl

set_option maxRecDepth 100000 in
set_option maxHeartbeats 4000000 in
theorem fold_pro (s : ByteArray) (w : World) (hs : s.size ≤ 16777216) (hT : Tabs w) : Calls Tryz.prog 37 #[.string s] w (Says (.string (fold s)) w) := by
  have HS := Lib.hid hs
  have HTW := Lib.hid hT
  clear hs hT
  go_enter Tryz.func37, Tryz.ntmps37
  go_wp2_with fail
  go_loopw [4] (fun bl wr => ∃ (pos fuel : Nat) (out : ByteArray) (wt : Bool), bl = .bool wt ∧ FoldI s w pos fuel out wt wr) (fun _ wr => s.size - wr.iterPos (w.heap.size + 1))
  case atStart =>
    refine ⟨0, s.size, ByteArray.empty, false, rfl, [], (Lib.IsBuilderF.of (Lib.fresh_isBuilder 144 5 w)).alloc _, ?_, ((Below.refl _ w).alloc (Nat.le_refl _) _).alloc (by simp) _, rfl, rfl, by omega, by simp, by omega⟩
    have := World.iter_heap (w.alloc (.cells #[.pointer none, .slice none 0 0] 144)) s 0
    simpa using this
  case round =>
    obtain ⟨pos, fuel, out, wt, rfl, done, hI, hit, hbw, hfo, hacc, hfu, hos, hps⟩ := hrel
    have HI := Lib.hid hit
    have HF := Lib.hid hfo
    have HO := Lib.hid hos
    clear hfo hos
    by_cases hp : pos < s.size
    · have hnx : ∀ ty, (Instr.next (.pointer (some ⟨w.heap.size + 1, 0, none⟩)) true ty).run Tryz.prog wr = _ := fun ty => Lib.run_next_any_at wr (w.heap.size + 1) s pos ty hit hp
      have hwd := width_pos s pos hp
      have hfit := decode_fits s pos hp
      have hrn := decode_le s pos
      have hI2 := hI.iterAt hit (pos + (Utf8.decode s pos).2)
      have hit2 := Lib.iterAt_heap wr (w.heap.size + 1) s pos (pos + (Utf8.decode s pos).2) hit
      have hbw2 := Lib.below_iterAt hbw (k := w.heap.size + 1) (by omega) s (pos + (Utf8.decode s pos).2)
      obtain ⟨f, rfl⟩ : ∃ f, fuel = f + 1 := ⟨fuel - 1, by omega⟩
      have HA := Lib.hid (chs_join (chs_split hp hacc))
      have HB := Lib.hid hI2
      have HI2 := Lib.hid hit2
      have HW2 := Lib.hid hbw2
      have HT := Lib.hid (HTW.out.below hbw2 (Nat.le_refl _))
      have HP := Lib.hid hp
      have HC := Lib.hid (foldOf_snoc s done (pos, (Utf8.decode s pos).1, (Utf8.decode s pos).2))
      have HBC := Lib.hid (fun (W : World) (t : Tabs W) => bad_pro s pos W hp HS.out t)
      have HFC := Lib.hid (show foldCh s (pos, (Utf8.decode s pos).1, (Utf8.decode s pos).2) = if badB (pos, (Utf8.decode s pos).1, (Utf8.decode s pos).2) then s.extract pos (pos + 1) else Utf8.encode (sml (Utf8.decode s pos).1) from rfl)
      clear hI hI2 hit hit2 hbw hbw2 hacc hp
      obtain ⟨c, hcd⟩ : ∃ c : Nat × Nat, Utf8.decode s pos = c := ⟨_, rfl⟩
      rw [hcd] at hnx hwd hfit hrn HA HB HI2 HW2 HT HC HBC HFC
      clear hcd
      by_cases h32 : c.1 = 32
      · have hb1 : ((c.1 : Int) == 32) = true := by simp; omega
        have HN := Lib.hid (show foldOf s (done ++ [(pos, c.1, c.2)]) = (out, !out.toList.isEmpty) by rw [HC.out, HF.out]; simp [foldStep, h32])
        clear h32
        go_wp2_with fail
        refine (Tryz.Builder_Len_f _ _ _ _ HB.out).mono ?_
        rintro e w1 ⟨rfl, rfl⟩
        rw [bcs_len]
        have HE := Lib.hid (show (!out.toList.isEmpty) = decide (0 < out.size) from emptyB out)
        go_wp2_with fail
        go_roundw
        case rel => exact ⟨_, f, out, _, rfl, _, HB.out, HI2.out, HW2.out, by rw [HN.out, HE.out], HA.out, by omega, by have := HO.out; omega, hfit⟩
        case measure => simp only [World.iterPos, HI2.out, HI.out]; have := HP.out; omega
      · have hb1 : ((c.1 : Int) == 32) = false := by simp; omega
        have HFL := Lib.hid h32
        have HRR := Lib.hid (show -2147483648 ≤ (c.1 : Int) ∧ (c.1 : Int) ≤ 2147483647 by omega)
        clear h32
        cases wt <;> cases hbad : badB (pos, c.1, c.2)
        · have HN := Lib.hid (show foldOf s (done ++ [(pos, c.1, c.2)]) = (out ++ Utf8.encode (sml c.1), false) by rw [HC.out, HF.out]; simp only [foldStep]; rw [if_neg HFL.out, HFC.out, hbad]; rfl)
          have HD := Lib.hid hbad
          clear hbad
          go_wp2_with fail
          refine (HBC.out _ HT.out).mono ?_
          rw [HD.out]
          rintro e w2 ⟨rfl, h2⟩
          have B2 := Lib.hid (bis_below HB.out h2)
          have I2 := Lib.hid ((h2.block _ (Array.getElem?_eq_some_iff.1 HI2.out).1).trans HI2.out)
          have Z2 := Lib.hid (HW2.out.trans (h2.mono HW2.out.size))
          clear h2
          go_wp2_with fail
          refine (small_q _ _ HRR.out).mono ?_
          rintro e w3 ⟨rfl, rfl⟩
          go_wp2_with fail
          refine (rune_pro w.heap.size w.heap.size _ _ (sml_range _ HRR.out) _ B2.out (by rw [bcs_len]; have := HO.out; have := HS.out; omega) Z2.out.size).mono ?_
          rintro e w3 ⟨rfl, b3, z3, k3⟩
          have B3 := Lib.hid (show BIs w.heap.size w.heap.size (bcs (out ++ Utf8.encode (sml c.1))) w3 by rw [bcs_app _ (Utf8.encode (sml c.1)), bcs_enc]; exact .inr b3)
          have I3 := Lib.hid (k3.iter I2.out (by omega))
          have Z3 := Lib.hid (Z2.out.trans z3)
          clear b3 z3 k3
          go_wp2_with fail
          go_roundw
          case rel => exact ⟨_, f, _, false, rfl, _, B3.out, I3.out, Z3.out, HN.out, HA.out, by omega, by rw [ByteArray.size_append]; have := enc_size (sml c.1); have := HO.out; omega, hfit⟩
          case measure => simp only [World.iterPos, I3.out, HI.out]; have := HP.out; omega
        · have HN := Lib.hid (show foldOf s (done ++ [(pos, c.1, c.2)]) = (out ++ s.extract pos (pos + 1), false) by rw [HC.out, HF.out]; simp only [foldStep]; rw [if_neg HFL.out, HFC.out, hbad]; rfl)
          have HD := Lib.hid hbad
          clear hbad
          go_wp2_with fail
          refine (HBC.out _ HT.out).mono ?_
          rw [HD.out]
          rintro e w2 ⟨rfl, h2⟩
          have B2 := Lib.hid (bis_below HB.out h2)
          have I2 := Lib.hid ((h2.block _ (Array.getElem?_eq_some_iff.1 HI2.out).1).trans HI2.out)
          have Z2 := Lib.hid (HW2.out.trans (h2.mono HW2.out.size))
          clear h2
          have hpp := HP.out
          have hpi : (pos : Int) < s.size := by omega
          go_wp2_with fail
          refine (byte_pro w.heap.size w.heap.size _ _ _ B2.out (by rw [bcs_len]; have := HO.out; have := HS.out; omega) Z2.out.size).mono ?_
          rintro e w3 ⟨rfl, b3, z3, k3⟩
          have B3 := Lib.hid (show BIs w.heap.size w.heap.size (bcs (out ++ s.extract pos (pos + 1))) w3 by rw [bcs_app _ (s.extract pos (pos + 1)), bcs_one s pos HP.out]; exact .inr b3)
          have I3 := Lib.hid (k3.iter I2.out (by omega))
          have Z3 := Lib.hid (Z2.out.trans z3)
          clear b3 z3 k3
          go_wp2_with fail
          go_roundw
          case rel => exact ⟨_, f, _, false, rfl, _, B3.out, I3.out, Z3.out, HN.out, HA.out, by omega, by rw [ByteArray.size_append]; have := ext_one s pos; have := HO.out; omega, hfit⟩
          case measure => simp only [World.iterPos, I3.out, HI.out]; have := HP.out; omega
        · have HN := Lib.hid (show foldOf s (done ++ [(pos, c.1, c.2)]) = (out ++ ⟨#[32]⟩ ++ Utf8.encode (sml c.1), false) by rw [HC.out, HF.out]; simp only [foldStep]; rw [if_neg HFL.out, HFC.out, hbad]; rfl)
          have HD := Lib.hid hbad
          clear hbad
          go_wp2_with fail
          refine (byte_pro w.heap.size w.heap.size _ 32 _ HB.out (by rw [bcs_len]; have := HO.out; have := HS.out; omega) HW2.out.size).mono ?_
          rintro e w1 ⟨rfl, b1, z1, k1⟩
          have B1 := Lib.hid (show BIs w.heap.size w.heap.size (bcs (out ++ ⟨#[32]⟩)) w1 by rw [bcs_app, bcs_blank]; exact .inr b1)
          have I1 := Lib.hid (k1.iter HI2.out (by omega))
          have Z1 := Lib.hid (HW2.out.trans z1)
          have T1 := Lib.hid (HTW.out.below (HW2.out.trans z1) (Nat.le_refl _))
          clear b1 z1 k1
          go_wp2_with fail
          refine (HBC.out w1 T1.out).mono ?_
          rw [HD.out]
          rintro e w2 ⟨rfl, h2⟩
          have B2 := Lib.hid (bis_below B1.out h2)
          have I2 := Lib.hid ((h2.block _ (Array.getElem?_eq_some_iff.1 I1.out).1).trans I1.out)
          have Z2 := Lib.hid (Z1.out.trans (h2.mono Z1.out.size))
          clear h2
          go_wp2_with fail
          refine (small_q _ _ HRR.out).mono ?_
          rintro e w3 ⟨rfl, rfl⟩
          go_wp2_with fail
          refine (rune_pro w.heap.size w.heap.size _ _ (sml_range _ HRR.out) _ B2.out (by rw [bcs_len, ByteArray.size_append, one32]; have := HO.out; have := HS.out; omega) Z2.out.size).mono ?_
          rintro e w3 ⟨rfl, b3, z3, k3⟩
          have B3 := Lib.hid (show BIs w.heap.size w.heap.size (bcs (out ++ ⟨#[32]⟩ ++ Utf8.encode (sml c.1))) w3 by rw [bcs_app _ (Utf8.encode (sml c.1)), bcs_enc]; exact .inr b3)
          have I3 := Lib.hid (k3.iter I2.out (by omega))
          have Z3 := Lib.hid (Z2.out.trans z3)
          clear b3 z3 k3
          go_wp2_with fail
          go_roundw
          case rel => exact ⟨_, f, _, false, rfl, _, B3.out, I3.out, Z3.out, HN.out, HA.out, by omega, by rw [ByteArray.size_append, ByteArray.size_append, one32]; have := enc_size (sml c.1); have := HO.out; omega, hfit⟩
          case measure => simp only [World.iterPos, I3.out, HI.out]; have := HP.out; omega
        · have HN := Lib.hid (show foldOf s (done ++ [(pos, c.1, c.2)]) = (out ++ ⟨#[32]⟩ ++ s.extract pos (pos + 1), false) by rw [HC.out, HF.out]; simp only [foldStep]; rw [if_neg HFL.out, HFC.out, hbad]; rfl)
          have HD := Lib.hid hbad
          clear hbad
          go_wp2_with fail
          refine (byte_pro w.heap.size w.heap.size _ 32 _ HB.out (by rw [bcs_len]; have := HO.out; have := HS.out; omega) HW2.out.size).mono ?_
          rintro e w1 ⟨rfl, b1, z1, k1⟩
          have B1 := Lib.hid (show BIs w.heap.size w.heap.size (bcs (out ++ ⟨#[32]⟩)) w1 by rw [bcs_app, bcs_blank]; exact .inr b1)
          have I1 := Lib.hid (k1.iter HI2.out (by omega))
          have Z1 := Lib.hid (HW2.out.trans z1)
          have T1 := Lib.hid (HTW.out.below (HW2.out.trans z1) (Nat.le_refl _))
          clear b1 z1 k1
          go_wp2_with fail
          refine (HBC.out w1 T1.out).mono ?_
          rw [HD.out]
          rintro e w2 ⟨rfl, h2⟩
          have B2 := Lib.hid (bis_below B1.out h2)
          have I2 := Lib.hid ((h2.block _ (Array.getElem?_eq_some_iff.1 I1.out).1).trans I1.out)
          have Z2 := Lib.hid (Z1.out.trans (h2.mono Z1.out.size))
          clear h2
          have hpp := HP.out
          have hpi : (pos : Int) < s.size := by omega
          go_wp2_with fail
          refine (byte_pro w.heap.size w.heap.size _ _ _ B2.out (by rw [bcs_len, ByteArray.size_append, one32]; have := HO.out; have := HS.out; omega) Z2.out.size).mono ?_
          rintro e w3 ⟨rfl, b3, z3, k3⟩
          have B3 := Lib.hid (show BIs w.heap.size w.heap.size (bcs (out ++ ⟨#[32]⟩ ++ s.extract pos (pos + 1))) w3 by rw [bcs_app _ (s.extract pos (pos + 1)), bcs_one s pos HP.out]; exact .inr b3)
          have I3 := Lib.hid (k3.iter I2.out (by omega))
          have Z3 := Lib.hid (Z2.out.trans z3)
          clear b3 z3 k3
          go_wp2_with fail
          go_roundw
          case rel => exact ⟨_, f, _, false, rfl, _, B3.out, I3.out, Z3.out, HN.out, HA.out, by omega, by rw [ByteArray.size_append, ByteArray.size_append, one32]; have := ext_one s pos; have := HO.out; omega, hfit⟩
          case measure => simp only [World.iterPos, I3.out, HI.out]; have := HP.out; omega
    · have hnx : ∀ ty, (Instr.next (.pointer (some ⟨w.heap.size + 1, 0, none⟩)) true ty).run Tryz.prog wr = _ := fun ty => Lib.run_next_end_at wr (w.heap.size + 1) s pos ty hit hp
      rw [chs_end s fuel _ hp, List.append_nil] at hacc
      have HN := Lib.hid (show fold s = out by unfold fold; rw [← hacc, HF.out])
      have HB := Lib.hid hI
      have HW2 := Lib.hid hbw
      clear hacc hit hI hbw
      go_wp2_with fail
      refine (Tryz.Builder_String_any_k w.heap.size w.heap.size out.data.toList _ HB.out HW2.out.size).mono ?_
      rintro e w1 ⟨rfl, _, z1, _⟩
      have Z1 := Lib.hid (HW2.out.trans z1)
      clear z1
      go_wp2_with fail
      go_ret
      rw [HN.out]
      exact ⟨rfl, Z1.out⟩
end Go.Proofs.YtoeknophfcfahaaGreatDoor
