/- The program's Good and Plain of layer 2. -/
import Derived.Test.YtoeknophfcfahaaGreatDoorPcoln
import Derived.Test.YtoeknophfcfahaaGreatDoorGoodn
import Derived.Test.YtoeknophfcfahaaGreatDoorShelf
namespace Go.Proofs.YtoeknophfcfahaaGreatDoor
open Go.RowKit Go.Maps

/-- What the library's own variables hold: the tables of utf8, and the length up to which it searches by one instruction. -/
def Tabs (w : World) : Prop := Lib.Utf8Tabs 1 2 w ∧ ∃ m, w.cell? ⟨0, 0, none⟩ = some (.int .i64 m)
theorem Tabs.below {B : Nat} {w w' : World} (h : Tabs w) (hb : Below B w w') (hB : w.heap.size ≤ B) : Tabs w' := by
  obtain ⟨⟨h1, h2⟩, m, h3⟩ := h
  have go : ∀ (b o : Nat) (v : Value), w.cell? ⟨b, o, none⟩ = some v → w'.cell? ⟨b, o, none⟩ = some v := fun b o v e => (hb.cell (p := ⟨b, o, none⟩) (Nat.lt_of_lt_of_le (cell_lt e) hB)).trans e
  exact ⟨⟨fun c hc => go _ _ _ (h1 c hc), fun i hi => ⟨go _ _ _ (h2 i hi).1, go _ _ _ (h2 i hi).2⟩⟩, m, go _ _ _ h3⟩
theorem Tabs.lt {w : World} (h : Tabs w) : 3 ≤ w.heap.size := by
  have := cell_lt (h.1.2 0 (by omega)).1
  have e : 2 = 2 := rfl
  omega
theorem get!_ext (s : ByteArray) (i k : Nat) : (s.extract i s.size).get! k = s.get! (i + k) := by
  have h : (s.extract i s.size).data = s.data.extract i s.size := by simp
  show (s.extract i s.size).data[k]! = s.data[i + k]!
  rw [h]
  simp only [Array.getElem!_eq_getD, Array.getD_eq_getD_getElem?]
  rw [Array.getElem?_extract]
  by_cases hk : k < s.size - i
  · rw [if_pos (by simpa using hk)]
  · rw [if_neg (by simpa using hk)]
    have : s.data[i + k]? = none := Array.getElem?_eq_none (by show s.size ≤ i + k; omega)
    rw [this]
theorem decode_tail (s : ByteArray) (i : Nat) (h : i < s.size) : Lib.decodeGo (s.extract i s.size) = Utf8.decode s i := by
  have hz : (s.extract i s.size).size = s.size - i := by rw [ByteArray.size_extract]; omega
  unfold Lib.decodeGo
  rw [if_neg (by omega), Lib.decode_at, Lib.decode_at, hz]
  simp only [get!_ext, Nat.zero_add, Nat.add_zero, Nat.sub_zero]

set_option maxRecDepth 100000 in
set_option maxHeartbeats 1000000 in
theorem bad_pro (s : ByteArray) (i : Nat) (w : World) (hi : i < s.size) (hs : s.size ≤ 16777216) (hT : Tabs w) :
    Calls Tryz.prog 74 #[.string s, .int .i64 i, .int .i32 (Utf8.decode s i).1] w (Says (.bool (badB (i, (Utf8.decode s i).1, (Utf8.decode s i).2))) w) := by
  have hd := Lib.hid (decode_tail s i hi)
  obtain ⟨c, hc⟩ : ∃ c : Nat × Nat, Utf8.decode s i = c := ⟨_, rfl⟩
  rw [hc]
  have HC := Lib.hid hc
  clear hc
  have b1 : (0 : Int) ≤ i := by omega
  have b2 : (i : Int) ≤ s.size := by omega
  have b3 : (s.size : Int) ≤ 16777216 := by omega
  have HT := Lib.hid hT
  clear hi hs hT
  by_cases h : c.1 = 65533
  · have t1 : ((c.1 : Int) != 65533) = false := by simp; omega
    have HB := Lib.hid (show badB (i, c.1, c.2) = ((c.2 : Int) == 1) by rw [Bool.eq_iff_iff]; simp [badB, h]; omega)
    clear h
    go_enter Tryz.func74, Tryz.ntmps74
    go_wp2_with fail
    refine (Tryz.utf8_DecodeRuneInString _ _ HT.out.1).mono ?_
    rw [hd.out, HC.out]
    rintro e w1 ⟨rfl, hb⟩
    have HZ := Lib.hid hb
    clear hb
    go_wp2_with fail
    go_ret
    rw [HB.out]
    exact ⟨rfl, HZ.out⟩
  · have t1 : ((c.1 : Int) != 65533) = true := by simp; omega
    have HB := Lib.hid (show badB (i, c.1, c.2) = false by simp [badB, h])
    clear h
    go_enter Tryz.func74, Tryz.ntmps74
    go_wp2_with fail
    go_ret
    rw [HB.out]
    exact ⟨rfl, Below.refl _ _⟩

theorem find_app {p : Ch → Bool} {acc rest : List Ch} {c : Ch} (hn : ∀ d ∈ acc, p d = false) (hp : p c = true) : (acc ++ c :: rest).find? p = some c := by
  rw [List.find?_append, List.find?_eq_none.2 (fun d hd => by simp [hn d hd])]
  simp [hp]
theorem find_nil {p : Ch → Bool} {l : List Ch} (hn : ∀ d ∈ l, p d = false) : l.find? p = none := List.find?_eq_none.2 fun d hd => by simp [hn d hd]
theorem pro_hit {p : Ch → Bool} {s : ByteArray} {w w' : World} {acc rest : List Ch} {c : Ch} (h : acc ++ c :: rest = chars s) (hn : ∀ d ∈ acc, p d = false) (hp : p c = true) (hb : Below w.heap.size w w') :
    Finds p s w (.returned (.tuple #[.int .i64 c.1, .bool false])) w' := by
  unfold Finds
  rw [← h, find_app hn hp]
  exact ⟨rfl, hb⟩
theorem pro_miss {p : Ch → Bool} {s : ByteArray} {w w' : World} {acc : List Ch} (h : acc = chars s) (hn : ∀ d ∈ acc, p d = false) (hb : Below w.heap.size w w') :
    Finds p s w (.returned (.tuple #[.int .i64 0, .bool true])) w' := by
  unfold Finds
  rw [← h, find_nil hn]
  exact ⟨rfl, hb⟩
theorem chs_split {s : ByteArray} {acc : List Ch} {pos f : Nat} (hp : pos < s.size) (h : acc ++ chs s (f + 1) pos = chars s) :
    acc ++ (pos, (Utf8.decode s pos).1, (Utf8.decode s pos).2) :: chs s f (pos + (Utf8.decode s pos).2) = chars s := by
  rw [← h]; simp [chs, hp]
theorem chs_join {s : ByteArray} {acc : List Ch} {c : Ch} {r : List Ch} (h : acc ++ c :: r = chars s) : (acc ++ [c]) ++ r = chars s := by rw [← h]; simp

set_option maxRecDepth 100000 in
set_option maxHeartbeats 2000000 in
theorem plain_pro (s : ByteArray) (w : World) (hs : s.size ≤ 16777216) (hT : Tabs w) : Calls Tryz.prog 36 #[.string s] w (Finds unplain s w) := by
  have HS := Lib.hid hs
  have HTW := Lib.hid hT
  clear hs hT
  go_enter Tryz.func36, Tryz.ntmps36
  go_wp2_with fail
  go_loopw [] (fun wr => ∃ (pos fuel : Nat) (acc : List Ch), wr.heap[w.heap.size]? = some (.stringIter s pos) ∧ Below w.heap.size w wr ∧ acc ++ chs s fuel pos = chars s ∧ s.size ≤ pos + fuel ∧ ∀ d ∈ acc, unplain d = false) (fun wr => s.size - wr.iterPos w.heap.size)
  case atStart =>
    refine ⟨0, s.size, [], ?_, (Below.refl _ w).alloc (Nat.le_refl _) _, rfl, by omega, by simp⟩
    have := World.iter_heap w s 0
    simpa using this
  case round =>
    obtain ⟨pos, fuel, acc, hit, hbw, hacc, hfu, hn⟩ := hrel
    have HI := Lib.hid hit
    have HN := Lib.hid hn
    by_cases hp : pos < s.size
    · have hnx : ∀ ty, (Instr.next (.pointer (some ⟨w.heap.size, 0, none⟩)) true ty).run Tryz.prog wr = _ := fun ty => Lib.run_next_any_at wr w.heap.size s pos ty hit hp
      have hwd := width_pos s pos hp
      have hit2 := Lib.iterAt_heap wr w.heap.size s pos (pos + (Utf8.decode s pos).2) hit
      have hbw2 := Lib.below_iterAt hbw (k := w.heap.size) (Nat.le_refl _) s (pos + (Utf8.decode s pos).2)
      obtain ⟨f, rfl⟩ : ∃ f, fuel = f + 1 := ⟨fuel - 1, by omega⟩
      have HA := Lib.hid (chs_split hp hacc)
      have HT := Lib.hid (HTW.out.below hbw2 (Nat.le_refl _))
      have HI2 := Lib.hid hit2
      have HB2 := Lib.hid hbw2
      have HP := Lib.hid hp
      clear hacc hit hbw hit2 hbw2 hn hp
      cases hbad : badB (pos, (Utf8.decode s pos).1, (Utf8.decode s pos).2)
      · have HD := Lib.hid hbad
        cases h1 : inB ((Utf8.decode s pos).1 : Int) 0 31
        · cases h2 : inB ((Utf8.decode s pos).1 : Int) 127 159
          · have HU := Lib.hid (show unplain (pos, (Utf8.decode s pos).1, (Utf8.decode s pos).2) = false by simp [unplain, ctl, hbad, h1, h2])
            clear hbad
            go_wp2_with (first | (go_at_call 74; refine (bad_pro s pos _ HP.out HS.out HT.out).mono ?_; rw [HD.out]; rintro e w1 ⟨rfl, hb⟩; have hit3 := (hb.block w.heap.size (Array.getElem?_eq_some_iff.1 HI2.out).1).trans HI2.out; have HI3 := Lib.hid hit3; have HB3 := Lib.hid (HB2.out.trans (hb.mono HB2.out.size)); clear hb hit3) | (go_at_call 75; refine (within_pro _ _ _ _).mono ?_; rintro e w2 ⟨rfl, rfl⟩))
            go_roundw
            case rel =>
              refine ⟨_, f, _, HI3.out, HB3.out, chs_join HA.out, by omega, fun d hd => ?_⟩
              rcases List.mem_append.1 hd with h | h
              · exact HN.out d h
              · rw [List.mem_singleton.1 h]; exact HU.out
            case measure => simp only [World.iterPos, HI3.out, HI.out]; have := HP.out; omega
          · have HU := Lib.hid (show unplain (pos, (Utf8.decode s pos).1, (Utf8.decode s pos).2) = true by simp [unplain, ctl, h2])
            clear hbad
            go_wp2_with (first | (go_at_call 74; refine (bad_pro s pos _ HP.out HS.out HT.out).mono ?_; rw [HD.out]; rintro e w1 ⟨rfl, hb⟩; have hit3 := (hb.block w.heap.size (Array.getElem?_eq_some_iff.1 HI2.out).1).trans HI2.out; have HI3 := Lib.hid hit3; have HB3 := Lib.hid (HB2.out.trans (hb.mono HB2.out.size)); clear hb hit3) | (go_at_call 75; refine (within_pro _ _ _ _).mono ?_; rintro e w2 ⟨rfl, rfl⟩))
            go_ret2
            exact pro_hit HA.out HN.out HU.out HB3.out
        · have HU := Lib.hid (show unplain (pos, (Utf8.decode s pos).1, (Utf8.decode s pos).2) = true by simp [unplain, ctl, h1])
          clear hbad
          go_wp2_with (first | (go_at_call 74; refine (bad_pro s pos _ HP.out HS.out HT.out).mono ?_; rw [HD.out]; rintro e w1 ⟨rfl, hb⟩; have hit3 := (hb.block w.heap.size (Array.getElem?_eq_some_iff.1 HI2.out).1).trans HI2.out; have HI3 := Lib.hid hit3; have HB3 := Lib.hid (HB2.out.trans (hb.mono HB2.out.size)); clear hb hit3) | (go_at_call 75; refine (within_pro _ _ _ _).mono ?_; rintro e w2 ⟨rfl, rfl⟩))
          go_ret2
          exact pro_hit HA.out HN.out HU.out HB3.out
      · have HD := Lib.hid hbad
        have HU := Lib.hid (show unplain (pos, (Utf8.decode s pos).1, (Utf8.decode s pos).2) = true by simp [unplain, hbad])
        clear hbad
        go_wp2_with (first | (go_at_call 74; refine (bad_pro s pos _ HP.out HS.out HT.out).mono ?_; rw [HD.out]; rintro e w1 ⟨rfl, hb⟩; have hit3 := (hb.block w.heap.size (Array.getElem?_eq_some_iff.1 HI2.out).1).trans HI2.out; have HI3 := Lib.hid hit3; have HB3 := Lib.hid (HB2.out.trans (hb.mono HB2.out.size)); clear hb hit3) | (go_at_call 75; refine (within_pro _ _ _ _).mono ?_; rintro e w2 ⟨rfl, rfl⟩))
        go_ret2
        exact pro_hit HA.out HN.out HU.out HB3.out
    · have hnx : ∀ ty, (Instr.next (.pointer (some ⟨w.heap.size, 0, none⟩)) true ty).run Tryz.prog wr = _ := fun ty => Lib.run_next_end_at wr w.heap.size s pos ty hit hp
      rw [chs_end s fuel _ hp, List.append_nil] at hacc
      have HA := Lib.hid hacc
      have HB := Lib.hid hbw
      clear hacc hit hbw hn
      go_wp2_with fail
      go_ret2
      exact pro_miss HA.out HN.out HB.out
end Go.Proofs.YtoeknophfcfahaaGreatDoor
