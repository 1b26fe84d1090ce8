/- The program's Plain of layer 2. -/
import Derived.Test.YtmceiehnfmgioaaGreatDoorMChars
import Derived.Test.YtmceiehnfmgioaaGreatDoorShelf
namespace Go.Proofs.YtmceiehnfmgioaaGreatDoor
open Go.RowKit Go.Maps

theorem find_at {p : Ch → Bool} : ∀ {l : List Ch} {k : Nat} {c : Ch}, l[k]? = some c → p c = true → (∀ j d, j < k → l[j]? = some d → p d = false) → l.find? p = some c
  | [], k, c, h, _, _ => by simp at h
  | a :: l, 0, c, h, hp, _ => by simp at h; subst h; simp [hp]
  | a :: l, k + 1, c, h, hp, hn => by
    have ha : p a = false := hn 0 a (by omega) rfl
    rw [List.find?_cons, ha]
    exact find_at (by simpa using h) hp fun j d hj hd => hn (j + 1) d (by omega) (by simpa using hd)
theorem find_no {p : Ch → Bool} {l : List Ch} (hn : ∀ j d, j < l.length → l[j]? = some d → p d = false) : l.find? p = none := by
  rw [List.find?_eq_none]
  intro x hx
  obtain ⟨j, hj, e⟩ := List.getElem_of_mem hx
  have := hn j x hj (by rw [List.getElem?_eq_getElem hj, e])
  simp [this]
def placeOf (o : Option Ch) : Int := match o with | some c => c.1 | none => 0
def unplain (c : Ch) : Bool := badB c || ctl c.2.1
/-- What Good and Plain answer, by what is looked for. -/
def Finds (p : Ch → Bool) (s : ByteArray) (w : World) (e : Ending) (w' : World) : Prop :=
  e = .returned (.tuple #[.int .i64 (placeOf ((chars s).find? p)), .bool ((chars s).find? p).isNone]) ∧ Below w.heap.size w w'
theorem finds_at {p : Ch → Bool} {s : ByteArray} {w w' : World} {k : Nat} {c : Ch} (h : (chars s)[k]? = some c) (hp : p c = true) (hn : ∀ j d, j < k → (chars s)[j]? = some d → p d = false) (hb : Below w.heap.size w w') :
    Finds p s w (.returned (.tuple #[.int .i64 c.1, .bool false])) w' := by
  unfold Finds
  rw [find_at h hp hn]
  exact ⟨rfl, hb⟩
theorem finds_no {p : Ch → Bool} {s : ByteArray} {w w' : World} (hn : ∀ j d, j < (chars s).length → (chars s)[j]? = some d → p d = false) (hb : Below w.heap.size w w') :
    Finds p s w (.returned (.tuple #[.int .i64 0, .bool true])) w' := by
  unfold Finds
  rw [find_no hn]
  exact ⟨rfl, hb⟩

theorem cell_lt {w : World} {b o : Nat} {v : Value} (h : w.cell? ⟨b, o, none⟩ = some v) : b < w.heap.size := cell_in h
theorem within_pro (r lo hi : Int) (w : World) :
    Calls Tryz.prog 53 #[.int .i32 r, .int .i32 lo, .int .i32 hi] w fun e w' => e = .returned (.bool (inB r lo hi)) ∧ w = w' := by
  go_enter Tryz.func53, Tryz.ntmps53
  go_wp2
  all_goals go_ret
  all_goals (refine ⟨ret_bool ?_, rfl⟩; rw [Bool.eq_iff_iff]; simp [inB]; try omega)


/-- What the library's own variables hold: the tables of utf8, the length up to which it searches by one instruction, the type of errors. -/
structure Tabs (w : World) : Prop where
  u8 : Lib.Utf8Tabs 2 3 w
  len : ∃ m, w.cell? ⟨1, 0, none⟩ = some (.int .i64 m)
  err : w.cell? ⟨0, 0, none⟩ = some (.iface 280 (.agg #[.pointer (some ⟨9, 24, none⟩)]))
theorem Tabs.below {B : Nat} {w w' : World} (h : Tabs w) (hb : Below B w w') (hB : w.heap.size ≤ B) : Tabs w' := by
  obtain ⟨⟨h1, h2⟩, ⟨m, h3⟩, h4⟩ := h
  have go : ∀ (b o : Nat) (v : Value), w.cell? ⟨b, o, none⟩ = some v → w'.cell? ⟨b, o, none⟩ = some v := fun b o v e => (hb.cell (p := ⟨b, o, none⟩) (Nat.lt_of_lt_of_le (cell_lt e) hB)).trans e
  exact ⟨⟨fun c hc => go _ _ _ (h1 c hc), fun i hi => ⟨go _ _ _ (h2 i hi).1, go _ _ _ (h2 i hi).2⟩⟩, ⟨m, go _ _ _ h3⟩, go _ _ _ h4⟩
theorem Tabs.at {w w' : World} (h : Tabs w) (hb : Below w.heap.size w w') : Tabs w' := h.below hb (Nat.le_refl _)
theorem get!_ext (s : ByteArray) (i k : Nat) : (s.extract i s.size).get! k = s.get! (i + k) := by
  have h : (s.extract i s.size).data = s.data.extract i s.size := by simp
  show (s.extract i s.size).data[k]! = s.data[i + k]!
  rw [h]
  simp only [Array.getElem!_eq_getD, Array.getD_eq_getD_getElem?]
  rw [Array.getElem?_extract]
  by_cases hk : k < s.size - i
  · rw [if_pos (by simpa using hk)]
  · rw [if_neg (by simpa using hk)]
    have : s.data[i + k]? = none := Array.getElem?_eq_none (by show s.size ≤ i + k; omega)
    rw [this]
theorem decode_tail (s : ByteArray) (i : Nat) (h : i < s.size) : Lib.decodeGo (s.extract i s.size) = Utf8.decode s i := by
  have hz : (s.extract i s.size).size = s.size - i := by rw [ByteArray.size_extract]; omega
  unfold Lib.decodeGo
  rw [if_neg (by omega), Lib.decode_at, Lib.decode_at, hz]
  simp only [get!_ext, Nat.zero_add, Nat.add_zero, Nat.sub_zero]

set_option maxRecDepth 100000 in
set_option maxHeartbeats 1000000 in
theorem bad_pro (s : ByteArray) (i : Nat) (w : World) (hi : i < s.size) (hs : s.size ≤ 16777216) (hT : Tabs w) :
    Calls Tryz.prog 52 #[.string s, .int .i64 i, .int .i32 (Utf8.decode s i).1] w (Says (.bool (badB (i, (Utf8.decode s i).1, (Utf8.decode s i).2))) w) := by
  have hd := Lib.hid (decode_tail s i hi)
  obtain ⟨c, hc⟩ : ∃ c : Nat × Nat, Utf8.decode s i = c := ⟨_, rfl⟩
  rw [hc]
  have HC := Lib.hid hc
  clear hc
  have b1 : (0 : Int) ≤ i := by omega
  have b2 : (i : Int) ≤ s.size := by omega
  have b3 : (s.size : Int) ≤ 16777216 := by omega
  have HT := Lib.hid hT
  clear hi hs hT
  by_cases h : c.1 = 65533
  · have t1 : ((c.1 : Int) != 65533) = false := by simp; omega
    have HB := Lib.hid (show badB (i, c.1, c.2) = ((c.2 : Int) == 1) by rw [Bool.eq_iff_iff]; simp [badB, h]; omega)
    clear h
    go_enter Tryz.func52, Tryz.ntmps52
    go_wp2_with fail
    refine (Tryz.utf8_DecodeRuneInString _ _ HT.out.u8).mono ?_
    rw [hd.out, HC.out]
    rintro e w1 ⟨rfl, hb⟩
    have HZ := Lib.hid hb
    clear hb
    go_wp2_with fail
    go_ret
    rw [HB.out]
    exact ⟨rfl, HZ.out⟩
  · have t1 : ((c.1 : Int) != 65533) = true := by simp; omega
    have HB := Lib.hid (show badB (i, c.1, c.2) = false by simp [badB, h])
    clear h
    go_enter Tryz.func52, Tryz.ntmps52
    go_wp2_with fail
    go_ret
    rw [HB.out]
    exact ⟨rfl, Below.refl _ _⟩

theorem find_app {p : Ch → Bool} {acc rest : List Ch} {c : Ch} (hn : ∀ d ∈ acc, p d = false) (hp : p c = true) : (acc ++ c :: rest).find? p = some c := by
  rw [List.find?_append, List.find?_eq_none.2 (fun d hd => by simp [hn d hd])]
  simp [hp]
theorem find_nil {p : Ch → Bool} {l : List Ch} (hn : ∀ d ∈ l, p d = false) : l.find? p = none := List.find?_eq_none.2 fun d hd => by simp [hn d hd]
theorem pro_hit {p : Ch → Bool} {s : ByteArray} {w w' : World} {acc rest : List Ch} {c : Ch} (h : acc ++ c :: rest = chars s) (hn : ∀ d ∈ acc, p d = false) (hp : p c = true) (hb : Below w.heap.size w w') :
    Finds p s w (.returned (.tuple #[.int .i64 c.1, .bool false])) w' := by
  unfold Finds
  rw [← h, find_app hn hp]
  exact ⟨rfl, hb⟩
theorem pro_miss {p : Ch → Bool} {s : ByteArray} {w w' : World} {acc : List Ch} (h : acc = chars s) (hn : ∀ d ∈ acc, p d = false) (hb : Below w.heap.size w w') :
    Finds p s w (.returned (.tuple #[.int .i64 0, .bool true])) w' := by
  unfold Finds
  rw [← h, find_nil hn]
  exact ⟨rfl, hb⟩
theorem chs_split {s : ByteArray} {acc : List Ch} {pos f : Nat} (hp : pos < s.size) (h : acc ++ chs s (f + 1) pos = chars s) :
    acc ++ (pos, (Utf8.decode s pos).1, (Utf8.decode s pos).2) :: chs s f (pos + (Utf8.decode s pos).2) = chars s := by
  rw [← h]; simp [chs, hp]
theorem chs_join {s : ByteArray} {acc : List Ch} {c : Ch} {r : List Ch} (h : acc ++ c :: r = chars s) : (acc ++ [c]) ++ r = chars s := by rw [← h]; simp

set_option maxRecDepth 100000 in
set_option maxHeartbeats 2000000 in
theorem plain_pro (s : ByteArray) (w : World) (hs : s.size ≤ 16777216) (hT : Tabs w) : Calls Tryz.prog 20 #[.string s] w (Finds unplain s w) := by
  have HS := Lib.hid hs
  have HTW := Lib.hid hT
  clear hs hT
  go_enter Tryz.func20, Tryz.ntmps20
  go_wp2_with fail
  go_loopw [] (fun wr => ∃ (pos fuel : Nat) (acc : List Ch), wr.heap[w.heap.size]? = some (.stringIter s pos) ∧ Below w.heap.size w wr ∧ acc ++ chs s fuel pos = chars s ∧ s.size ≤ pos + fuel ∧ ∀ d ∈ acc, unplain d = false) (fun wr => s.size - wr.iterPos w.heap.size)
  case atStart =>
    refine ⟨0, s.size, [], ?_, (Below.refl _ w).alloc (Nat.le_refl _) _, rfl, by omega, by simp⟩
    have := World.iter_heap w s 0
    simpa using this
  case round =>
    obtain ⟨pos, fuel, acc, hit, hbw, hacc, hfu, hn⟩ := hrel
    have HI := Lib.hid hit
    have HN := Lib.hid hn
    by_cases hp : pos < s.size
    · have hnx : ∀ ty, (Instr.next (.pointer (some ⟨w.heap.size, 0, none⟩)) true ty).run Tryz.prog wr = _ := fun ty => Lib.run_next_any_at wr w.heap.size s pos ty hit hp
      have hwd := width_pos s pos hp
      have hit2 := Lib.iterAt_heap wr w.heap.size s pos (pos + (Utf8.decode s pos).2) hit
      have hbw2 := Lib.below_iterAt hbw (k := w.heap.size) (Nat.le_refl _) s (pos + (Utf8.decode s pos).2)
      obtain ⟨f, rfl⟩ : ∃ f, fuel = f + 1 := ⟨fuel - 1, by omega⟩
      have HA := Lib.hid (chs_split hp hacc)
      have HT := Lib.hid (HTW.out.below hbw2 (Nat.le_refl _))
      have HI2 := Lib.hid hit2
      have HB2 := Lib.hid hbw2
      have HP := Lib.hid hp
      clear hacc hit hbw hit2 hbw2 hn hp
      cases hbad : badB (pos, (Utf8.decode s pos).1, (Utf8.decode s pos).2)
      · have HD := Lib.hid hbad
        cases h1 : inB ((Utf8.decode s pos).1 : Int) 0 31
        · cases h2 : inB ((Utf8.decode s pos).1 : Int) 127 159
          · have HU := Lib.hid (show unplain (pos, (Utf8.decode s pos).1, (Utf8.decode s pos).2) = false by simp [unplain, ctl, hbad, h1, h2])
            clear hbad
            go_wp2_with (first | (go_at_call 52; refine (bad_pro s pos _ HP.out HS.out HT.out).mono ?_; rw [HD.out]; rintro e w1 ⟨rfl, hb⟩; have hit3 := (hb.block w.heap.size (Array.getElem?_eq_some_iff.1 HI2.out).1).trans HI2.out; have HI3 := Lib.hid hit3; have HB3 := Lib.hid (HB2.out.trans (hb.mono HB2.out.size)); clear hb hit3) | (go_at_call 53; refine (within_pro _ _ _ _).mono ?_; rintro e w2 ⟨rfl, rfl⟩))
            go_roundw
            case rel =>
              refine ⟨_, f, _, HI3.out, HB3.out, chs_join HA.out, by omega, fun d hd => ?_⟩
              rcases List.mem_append.1 hd with h | h
              · exact HN.out d h
              · rw [List.mem_singleton.1 h]; exact HU.out
            case measure => simp only [World.iterPos, HI3.out, HI.out]; have := HP.out; omega
          · have HU := Lib.hid (show unplain (pos, (Utf8.decode s pos).1, (Utf8.decode s pos).2) = true by simp [unplain, ctl, h2])
            clear hbad
            go_wp2_with (first | (go_at_call 52; refine (bad_pro s pos _ HP.out HS.out HT.out).mono ?_; rw [HD.out]; rintro e w1 ⟨rfl, hb⟩; have hit3 := (hb.block w.heap.size (Array.getElem?_eq_some_iff.1 HI2.out).1).trans HI2.out; have HI3 := Lib.hid hit3; have HB3 := Lib.hid (HB2.out.trans (hb.mono HB2.out.size)); clear hb hit3) | (go_at_call 53; refine (within_pro _ _ _ _).mono ?_; rintro e w2 ⟨rfl, rfl⟩))
            go_ret2
            exact pro_hit HA.out HN.out HU.out HB3.out
        · have HU := Lib.hid (show unplain (pos, (Utf8.decode s pos).1, (Utf8.decode s pos).2) = true by simp [unplain, ctl, h1])
          clear hbad
          go_wp2_with (first | (go_at_call 52; refine (bad_pro s pos _ HP.out HS.out HT.out).mono ?_; rw [HD.out]; rintro e w1 ⟨rfl, hb⟩; have hit3 := (hb.block w.heap.size (Array.getElem?_eq_some_iff.1 HI2.out).1).trans HI2.out; have HI3 := Lib.hid hit3; have HB3 := Lib.hid (HB2.out.trans (hb.mono HB2.out.size)); clear hb hit3) | (go_at_call 53; refine (within_pro _ _ _ _).mono ?_; rintro e w2 ⟨rfl, rfl⟩))
          go_ret2
          exact pro_hit HA.out HN.out HU.out HB3.out
      · have HD := Lib.hid hbad
        have HU := Lib.hid (show unplain (pos, (Utf8.decode s pos).1, (Utf8.decode s pos).2) = true by simp [unplain, hbad])
        clear hbad
        go_wp2_with (first | (go_at_call 52; refine (bad_pro s pos _ HP.out HS.out HT.out).mono ?_; rw [HD.out]; rintro e w1 ⟨rfl, hb⟩; have hit3 := (hb.block w.heap.size (Array.getElem?_eq_some_iff.1 HI2.out).1).trans HI2.out; have HI3 := Lib.hid hit3; have HB3 := Lib.hid (HB2.out.trans (hb.mono HB2.out.size)); clear hb hit3) | (go_at_call 53; refine (within_pro _ _ _ _).mono ?_; rintro e w2 ⟨rfl, rfl⟩))
        go_ret2
        exact pro_hit HA.out HN.out HU.out HB3.out
    · have hnx : ∀ ty, (Instr.next (.pointer (some ⟨w.heap.size, 0, none⟩)) true ty).run Tryz.prog wr = _ := fun ty => Lib.run_next_end_at wr w.heap.size s pos ty hit hp
      rw [chs_end s fuel _ hp, List.append_nil] at hacc
      have HA := Lib.hid hacc
      have HB := Lib.hid hbw
      clear hacc hit hbw hn
      go_wp2_with fail
      go_ret2
      exact pro_miss HA.out HN.out HB.out
end Go.Proofs.YtmceiehnfmgioaaGreatDoor
