/- The texts that the laws of layout stand on, part 13. -/
import Derived.Test.YtjohhahfpgfjdaaGreatDoorK8
import Derived.Test.YtjohhahfpgfjdaaGreatDoorK9
import Derived.Lib.FrozenHead2
import Derived.Lib.OthersKept
import Derived.Lib.RuneBytes
import Derived.Deep.QuietTactic
import Derived.BigQuiet
import Derived.WalkLawsBesides
import Derived.Laws.Cover4
import Derived.IntWalk
section
namespace Go.Proofs.YtjohhahfpgfjdaaGreatDoor
section
open Go.RowKit Go.Maps

/-- What the library's own variables hold: the tables of utf8, and the length up to which it searches by one instruction. -/
def Tabs (w : World) : Prop := Lib.Utf8Tabs 0 1 w ∧ ∃ m, w.cell? ⟨3, 0, none⟩ = some (.int .i64 m)
theorem Tabs.below {B : Nat} {w w' : World} (h : Tabs w) (hb : Below B w w') (hB : w.heap.size ≤ B) : Tabs w' := by
  obtain ⟨⟨h1, h2⟩, m, h3⟩ := h
  have go : ∀ (b o : Nat) (v : Value), w.cell? ⟨b, o, none⟩ = some v → w'.cell? ⟨b, o, none⟩ = some v := fun b o v e => (hb.cell (p := ⟨b, o, none⟩) (Nat.lt_of_lt_of_le (cell_lt e) hB)).trans e
  exact ⟨⟨fun c hc => go _ _ _ (h1 c hc), fun i hi => ⟨go _ _ _ (h2 i hi).1, go _ _ _ (h2 i hi).2⟩⟩, m, go _ _ _ h3⟩
theorem Tabs.lt {w : World} (h : Tabs w) : 3 ≤ w.heap.size := by
  first
  | (have := cell_lt (h.1.2 0 (by omega)).1
     have e : 2 ≤ 1 := by decide
     omega)
  | (obtain ⟨_, m, h3⟩ := h
     have := cell_lt h3
     have e : 2 ≤ 3 := by decide
     omega)
theorem get!_ext (s : ByteArray) (i k : Nat) : (s.extract i s.size).get! k = s.get! (i + k) := by
  have h : (s.extract i s.size).data = s.data.extract i s.size := by simp
  show (s.extract i s.size).data[k]! = s.data[i + k]!
  rw [h]
  simp only [Array.getElem!_eq_getD, Array.getD_eq_getD_getElem?]
  rw [Array.getElem?_extract]
  by_cases hk : k < s.size - i
  · rw [if_pos (by simpa using hk)]
  · rw [if_neg (by simpa using hk)]
    have : s.data[i + k]? = none := Array.getElem?_eq_none (by show s.size ≤ i + k; omega)
    rw [this]
theorem decode_tail (s : ByteArray) (i : Nat) (h : i < s.size) : Lib.decodeGo (s.extract i s.size) = Utf8.decode s i := by
  have hz : (s.extract i s.size).size = s.size - i := by rw [ByteArray.size_extract]; omega
  unfold Lib.decodeGo
  rw [if_neg (by omega), Lib.decode_at, Lib.decode_at, hz]
  simp only [get!_ext, Nat.zero_add, Nat.add_zero, Nat.sub_zero]

set_option maxRecDepth 100000 in
set_option maxHeartbeats 1000000 in
theorem bad_pro (s : ByteArray) (i : Nat) (w : World) (hi : i < s.size) (hs : s.size ≤ 16777216) (hT : Tabs w) :
    Calls Tryz.prog 135 #[.string s, .int .i64 i, .int .i32 (Utf8.decode s i).1] w (Says (.bool (badB (i, (Utf8.decode s i).1, (Utf8.decode s i).2))) w) := by
  have hd := Lib.hid (decode_tail s i hi)
  obtain ⟨c, hc⟩ : ∃ c : Nat × Nat, Utf8.decode s i = c := ⟨_, rfl⟩
  rw [hc]
  have HC := Lib.hid hc
  clear hc
  have b1 : (0 : Int) ≤ i := by omega
  have b2 : (i : Int) ≤ s.size := by omega
  have b3 : (s.size : Int) ≤ 16777216 := by omega
  have HT := Lib.hid hT
  clear hi hs hT
  by_cases h : c.1 = 65533
  · have t1 : ((c.1 : Int) != 65533) = false := by simp; omega
    have HB := Lib.hid (show badB (i, c.1, c.2) = ((c.2 : Int) == 1) by rw [Bool.eq_iff_iff]; simp [badB, h]; omega)
    clear h
    go_enter Tryz.func135, Tryz.ntmps135
    go_wp2_with fail
    refine (Tryz.utf8_DecodeRuneInString _ _ HT.out.1).mono ?_
    rw [hd.out, HC.out]
    rintro e w1 ⟨rfl, hb⟩
    have HZ := Lib.hid hb
    clear hb
    go_wp2_with fail
    go_ret
    rw [HB.out]
    exact ⟨rfl, HZ.out⟩
  · have t1 : ((c.1 : Int) != 65533) = true := by simp; omega
    have HB := Lib.hid (show badB (i, c.1, c.2) = false by simp [badB, h])
    clear h
    go_enter Tryz.func135, Tryz.ntmps135
    go_wp2_with fail
    go_ret
    rw [HB.out]
    exact ⟨rfl, Below.refl _ _⟩

theorem find_app {p : Ch → Bool} {acc rest : List Ch} {c : Ch} (hn : ∀ d ∈ acc, p d = false) (hp : p c = true) : (acc ++ c :: rest).find? p = some c := by
  rw [List.find?_append, List.find?_eq_none.2 (fun d hd => by simp [hn d hd])]
  simp [hp]
theorem find_nil {p : Ch → Bool} {l : List Ch} (hn : ∀ d ∈ l, p d = false) : l.find? p = none := List.find?_eq_none.2 fun d hd => by simp [hn d hd]
theorem pro_hit {p : Ch → Bool} {s : ByteArray} {w w' : World} {acc rest : List Ch} {c : Ch} (h : acc ++ c :: rest = chars s) (hn : ∀ d ∈ acc, p d = false) (hp : p c = true) (hb : Below w.heap.size w w') :
    Finds p s w (.returned (.tuple #[.int .i64 c.1, .bool false])) w' := by
  unfold Finds
  rw [← h, find_app hn hp]
  exact ⟨rfl, hb⟩
theorem pro_miss {p : Ch → Bool} {s : ByteArray} {w w' : World} {acc : List Ch} (h : acc = chars s) (hn : ∀ d ∈ acc, p d = false) (hb : Below w.heap.size w w') :
    Finds p s w (.returned (.tuple #[.int .i64 0, .bool true])) w' := by
  unfold Finds
  rw [← h, find_nil hn]
  exact ⟨rfl, hb⟩
theorem chs_split {s : ByteArray} {acc : List Ch} {pos f : Nat} (hp : pos < s.size) (h : acc ++ chs s (f + 1) pos = chars s) :
    acc ++ (pos, (Utf8.decode s pos).1, (Utf8.decode s pos).2) :: chs s f (pos + (Utf8.decode s pos).2) = chars s := by
  rw [← h]; simp [chs, hp]
theorem chs_join {s : ByteArray} {acc : List Ch} {c : Ch} {r : List Ch} (h : acc ++ c :: r = chars s) : (acc ++ [c]) ++ r = chars s := by rw [← h]; simp

set_option maxRecDepth 100000 in
set_option maxHeartbeats 2000000 in
theorem plain_pro (s : ByteArray) (w : World) (hs : s.size ≤ 16777216) (hT : Tabs w) : Calls Tryz.prog 107 #[.string s] w (Finds unplain s w) := by
  have HS := Lib.hid hs
  have HTW := Lib.hid hT
  clear hs hT
  go_enter Tryz.func107, Tryz.ntmps107
  go_wp2_with fail
  go_loopw [] (fun wr => ∃ (pos fuel : Nat) (acc : List Ch), wr.heap[w.heap.size]? = some (.stringIter s pos) ∧ Below w.heap.size w wr ∧ acc ++ chs s fuel pos = chars s ∧ s.size ≤ pos + fuel ∧ ∀ d ∈ acc, unplain d = false) (fun wr => s.size - wr.iterPos w.heap.size)
  case atStart =>
    refine ⟨0, s.size, [], ?_, (Below.refl _ w).alloc (Nat.le_refl _) _, rfl, by omega, by simp⟩
    have := World.iter_heap w s 0
    simpa using this
  case round =>
    obtain ⟨pos, fuel, acc, hit, hbw, hacc, hfu, hn⟩ := hrel
    have HI := Lib.hid hit
    have HN := Lib.hid hn
    by_cases hp : pos < s.size
    · have hnx : ∀ ty, (Instr.next (.pointer (some ⟨w.heap.size, 0, none⟩)) true ty).run Tryz.prog wr = _ := fun ty => Lib.run_next_any_at wr w.heap.size s pos ty hit hp
      have hwd := width_pos s pos hp
      have hit2 := Lib.iterAt_heap wr w.heap.size s pos (pos + (Utf8.decode s pos).2) hit
      have hbw2 := Lib.below_iterAt hbw (k := w.heap.size) (Nat.le_refl _) s (pos + (Utf8.decode s pos).2)
      obtain ⟨f, rfl⟩ : ∃ f, fuel = f + 1 := ⟨fuel - 1, by omega⟩
      have HA := Lib.hid (chs_split hp hacc)
      have HT := Lib.hid (HTW.out.below hbw2 (Nat.le_refl _))
      have HI2 := Lib.hid hit2
      have HB2 := Lib.hid hbw2
      have HP := Lib.hid hp
      clear hacc hit hbw hit2 hbw2 hn hp
      cases hbad : badB (pos, (Utf8.decode s pos).1, (Utf8.decode s pos).2)
      · have HD := Lib.hid hbad
        cases h1 : inB ((Utf8.decode s pos).1 : Int) 0 31
        · cases h2 : inB ((Utf8.decode s pos).1 : Int) 127 159
          · have HU := Lib.hid (show unplain (pos, (Utf8.decode s pos).1, (Utf8.decode s pos).2) = false by simp [unplain, ctl, hbad, h1, h2])
            clear hbad
            go_wp2_with (first | (go_at_call 135; refine (bad_pro s pos _ HP.out HS.out HT.out).mono ?_; rw [HD.out]; rintro e w1 ⟨rfl, hb⟩; have hit3 := (hb.block w.heap.size (Array.getElem?_eq_some_iff.1 HI2.out).1).trans HI2.out; have HI3 := Lib.hid hit3; have HB3 := Lib.hid (HB2.out.trans (hb.mono HB2.out.size)); clear hb hit3) | (go_at_call 136; refine (within_pro _ _ _ _).mono ?_; rintro e w2 ⟨rfl, rfl⟩))
            go_roundw
            case rel =>
              refine ⟨_, f, _, HI3.out, HB3.out, chs_join HA.out, by omega, fun d hd => ?_⟩
              rcases List.mem_append.1 hd with h | h
              · exact HN.out d h
              · rw [List.mem_singleton.1 h]; exact HU.out
            case measure => simp only [World.iterPos, HI3.out, HI.out]; have := HP.out; omega
          · have HU := Lib.hid (show unplain (pos, (Utf8.decode s pos).1, (Utf8.decode s pos).2) = true by simp [unplain, ctl, h2])
            clear hbad
            go_wp2_with (first | (go_at_call 135; refine (bad_pro s pos _ HP.out HS.out HT.out).mono ?_; rw [HD.out]; rintro e w1 ⟨rfl, hb⟩; have hit3 := (hb.block w.heap.size (Array.getElem?_eq_some_iff.1 HI2.out).1).trans HI2.out; have HI3 := Lib.hid hit3; have HB3 := Lib.hid (HB2.out.trans (hb.mono HB2.out.size)); clear hb hit3) | (go_at_call 136; refine (within_pro _ _ _ _).mono ?_; rintro e w2 ⟨rfl, rfl⟩))
            go_ret2
            exact pro_hit HA.out HN.out HU.out HB3.out
        · have HU := Lib.hid (show unplain (pos, (Utf8.decode s pos).1, (Utf8.decode s pos).2) = true by simp [unplain, ctl, h1])
          clear hbad
          go_wp2_with (first | (go_at_call 135; refine (bad_pro s pos _ HP.out HS.out HT.out).mono ?_; rw [HD.out]; rintro e w1 ⟨rfl, hb⟩; have hit3 := (hb.block w.heap.size (Array.getElem?_eq_some_iff.1 HI2.out).1).trans HI2.out; have HI3 := Lib.hid hit3; have HB3 := Lib.hid (HB2.out.trans (hb.mono HB2.out.size)); clear hb hit3) | (go_at_call 136; refine (within_pro _ _ _ _).mono ?_; rintro e w2 ⟨rfl, rfl⟩))
          go_ret2
          exact pro_hit HA.out HN.out HU.out HB3.out
      · have HD := Lib.hid hbad
        have HU := Lib.hid (show unplain (pos, (Utf8.decode s pos).1, (Utf8.decode s pos).2) = true by simp [unplain, hbad])
        clear hbad
        go_wp2_with (first | (go_at_call 135; refine (bad_pro s pos _ HP.out HS.out HT.out).mono ?_; rw [HD.out]; rintro e w1 ⟨rfl, hb⟩; have hit3 := (hb.block w.heap.size (Array.getElem?_eq_some_iff.1 HI2.out).1).trans HI2.out; have HI3 := Lib.hid hit3; have HB3 := Lib.hid (HB2.out.trans (hb.mono HB2.out.size)); clear hb hit3) | (go_at_call 136; refine (within_pro _ _ _ _).mono ?_; rintro e w2 ⟨rfl, rfl⟩))
        go_ret2
        exact pro_hit HA.out HN.out HU.out HB3.out
    · have hnx : ∀ ty, (Instr.next (.pointer (some ⟨w.heap.size, 0, none⟩)) true ty).run Tryz.prog wr = _ := fun ty => Lib.run_next_end_at wr w.heap.size s pos ty hit hp
      rw [chs_end s fuel _ hp, List.append_nil] at hacc
      have HA := Lib.hid hacc
      have HB := Lib.hid hbw
      clear hacc hit hbw hn
      go_wp2_with fail
      go_ret2
      exact pro_miss HA.out HN.out HB.out
end
section
open Go.RowKit Go.Maps

theorem sizeB : (Tryz.prog.info? 142).map (·.size) = some 2 := by kernel_rfl
theorem infoB5 : (Tryz.prog.info? 5).map (fun i => (i.zero, i.size, i.bytes)) = some (some (.int .u8 0), 1, 1) := by kernel_rfl
abbrev BAt (B b : Nat) (bs : List Value) (w : World) : Prop := Lib.BuilderAtF 142 5 B b (.pointer (some ⟨b, 0, none⟩)) bs w
abbrev BIs (B b : Nat) (bs : List Value) (w : World) : Prop := Lib.IsBuilderF 142 5 B b bs w
/-- A call has left the builder with bs, and all else but rows of bytes as it was. -/
def Built (B b : Nat) (bs : List Value) (w w' : World) : Prop := BAt B b bs w' ∧ Below B w w' ∧ Lib.OthersKept 5 (some b) w w'
def Wrote (v : Value) (B b : Nat) (bs : List Value) (w : World) (e : Ending) (w' : World) : Prop := e = .returned v ∧ Built B b bs w w'

set_option maxRecDepth 100000 in
set_option maxHeartbeats 1000000 in
theorem check_used (b : Nat) (w : World) (h0 : w.cell? ⟨b, 0, none⟩ = some (.pointer (some ⟨b, 0, none⟩))) :
    Calls Tryz.prog 105 #[.pointer (some ⟨b, 0, none⟩)] w fun e w' => e = .returned (.tuple #[]) ∧ w' = w := by
  obtain ⟨j, hj, _⟩ := Option.map_eq_some_iff.1 sizeB
  go_enter Tryz.func105, Tryz.ntmps105
  go_wp2
  rw [Lib.run_neq_ptr_same w _ Tryz.underlying139 hj]
  go_wp2
  go_end0
  exact ⟨rfl, rfl⟩

set_option maxRecDepth 100000 in
set_option maxHeartbeats 1000000 in
theorem check_fresh (b : Nat) (w : World) (h0 : w.cell? ⟨b, 0, none⟩ = some (.pointer none)) (hsh : w.shape? b = some (142, 2)) (hfz : w.frozen? ⟨b, 0, none⟩ = false) :
    Calls Tryz.prog 105 #[.pointer (some ⟨b, 0, none⟩)] w fun e w' => e = .returned (.tuple #[]) ∧ w' = w.setCell ⟨b, 0, none⟩ (.pointer (some ⟨b, 0, none⟩)) := by
  obtain ⟨j, hj, hjs⟩ := Option.map_eq_some_iff.1 sizeB
  go_enter Tryz.func105, Tryz.ntmps105
  go_wp2
  rw [Lib.run_to_unsafe w ⟨b, 0, none⟩ Tryz.underlying139 Tryz.underlying204 hj (by rw [hjs]; decide) hsh (Nat.zero_lt_succ 1)]
  simp only [Result.andThen]
  rw [Oper.upon_value]
  go_wp2
  rw [run_callFunc_extern Tryz.func127 (by kernel_rfl) (by kernel_rfl) (by kernel_rfl) (e := Extern.AbiNoEscape.same) (by kernel_rfl)]
  rw [Lib.run_noEscape]
  simp only [Result.andThen]
  rw [Oper.upon_value]
  go_wp2
  rw [Lib.run_from_unsafe w ⟨b, 0, none⟩ Tryz.underlying204 Tryz.underlying139 hj hsh Tryz.Builder_Extra_169.liesBuilder]
  simp only [Result.andThen]
  rw [Oper.upon_value]
  go_wp2
  go_end0
  exact ⟨rfl, rfl⟩

theorem check_pro (B b : Nat) (bs : List Value) (w : World) (h : BIs B b bs w) :
    Calls Tryz.prog 105 #[.pointer (some ⟨b, 0, none⟩)] w (Wrote (.tuple #[]) B b bs w) := by
  rcases h with h | h
  · refine (check_fresh b w h.cell0 h.shape h.frozen0).mono ?_
    rintro e w' ⟨rfl, rfl⟩
    exact ⟨rfl, h.used _, (Below.refl B w).setCell (p := ⟨b, 0, none⟩) h.1 _, (Lib.OthersKept.refl _ _ w).setCell ⟨b, 0, none⟩ rfl _⟩
  · refine (check_used b w h.cell0).mono ?_
    rintro e w' ⟨rfl, rfl⟩
    exact ⟨rfl, h, Below.refl B _, Lib.OthersKept.refl _ _ _⟩
/-- What the slice of a builder's bytes looks like. -/
theorem row_form {B : Nat} {v : Value} {n : Nat} {xs : List Value} {w : World} (h : w.ownsRowF B 5 1 v n xs) : ∃ a c, v = .slice a n c := by
  rcases h.2 with ⟨hv, h0⟩ | ⟨g, cap, cur, fz, hv, _⟩
  · exact ⟨none, 0, by rw [hv, h0]⟩
  · exact ⟨_, _, hv⟩
theorem built_put0 {B b : Nat} {v v' : Value} {bs more : List Value} {w w1 w2 : World} (h1 : B ≤ b) (hbk : w1.heap[b]? = some (.cells #[.pointer (some ⟨b, 0, none⟩), v] 142 (0, 0)))
    (hown : w1.ownsRowF B 5 1 v bs.length bs) (hne : v.ownBlock ≠ some b) (hb1 : Below B w w1) (hk1 : Lib.OthersKept 5 (some b) w w1)
    (hown' : w2.ownsRowF B 5 1 v' (bs ++ more).length (bs ++ more)) (hgrow : w1.grownBy w2 v.ownBlock) :
    w2.heap[b]? = some (.cells #[.pointer (some ⟨b, 0, none⟩), v] 142 (0, 0)) ∧ Built B b (bs ++ more) w (w2.setCell ⟨b, 1, none⟩ v') := by
  have hlt : b < w1.heap.size := (Array.getElem?_eq_some_iff.1 hbk).1
  have hb2 : w2.heap[b]? = some (.cells #[.pointer (some ⟨b, 0, none⟩), v] 142 (0, 0)) := by
    rw [hgrow.block b hlt (fun e => hne e.symm)]
    exact hbk
  refine ⟨hb2, Lib.BuilderAtF.put (T := 142) (e := 5) h1 hb2 hown' (by decide), ?_, (hk1.grown hgrow (Lib.ownsRowF_kind hown)).setCell ⟨b, 1, none⟩ rfl _⟩
  exact (hb1.grown hgrow (by have := hb1.size; omega) (fun k hk => (hown.lt k hk).1)).setCell (p := ⟨b, 1, none⟩) h1 _

set_option maxRecDepth 100000 in
set_option maxHeartbeats 2000000 in
theorem str_pro (B b : Nat) (bs : List Value) (t : ByteArray) (w : World) (h : BIs B b bs w) (hlen : bs.length + t.size ≤ 140737488355328) (hBw : B ≤ w.heap.size) :
    Calls Tryz.prog 71 #[.pointer (some ⟨b, 0, none⟩), .string t] w (Wrote (.tuple #[.int .i64 t.size, .nilIface]) B b (bs ++ Lib.strCells t) w) := by
  obtain ⟨i0, hi, hz0, hz1, hz2⟩ := info_parts infoB5
  go_enter Tryz.func71, Tryz.ntmps71
  go_wp2_with fail
  refine (check_pro B b bs _ h).mono ?_
  rintro e w1 ⟨rfl, ⟨hB, v, hbk, hown, hne⟩, hb1, hk1⟩
  have c1 : w1.cell? ⟨b, 1, none⟩ = some v := by rw [Lib.cell_of_heap hbk]; rfl
  have K := Lib.hid (fun (w2 : World) (v' : Value) => built_put0 (v' := v') (more := Lib.strCells t) (w2 := w2) hB hbk hown hne hb1 hk1)
  have HO := Lib.hid hown
  have L1 := Lib.hid (show bs.length + t.size ≤ maxLen by unfold maxLen; omega)
  have L2 := Lib.hid (show (bs.length + t.size) * 1 ≤ 140737488355328 by omega)
  have L3 := Lib.hid (show B ≤ w1.heap.size by have := hb1.size; omega)
  clear hlen hBw hbk hown hne hb1 hk1 h
  go_wp2_with (at_builtin; go_loud (refine Lib.wpList_append_own_stringF _ rfl _ _ 140 9 rfl B 5 i0 Tryz.underlying140 Tryz.underlying9 hi hz0 hz1 hz2 _ _ _ rfl HO.out t rfl ?c3 ?c4 ?c5 ?_))
  case c3 => exact L1.out
  case c4 => have := L2.out; omega
  case c5 => exact L3.out
  intro v' w2 hown' hgrow _
  obtain ⟨g, cap, rfl⟩ := row_form hown'
  obtain ⟨hb2, hbt⟩ := K.out w2 _ (by simpa [Lib.strCells_length] using hown') hgrow
  have d0 : w2.cell? ⟨b, 0, none⟩ = some (.pointer (some ⟨b, 0, none⟩)) := by rw [Lib.cell_of_heap hb2]; rfl
  have d1 : w2.cell? ⟨b, 1, none⟩ = some v := by rw [Lib.cell_of_heap hb2]; rfl
  have f1 : w2.frozen? ⟨b, 1, none⟩ = false := Lib.frozen_of_heap hb2 1
  have HT := Lib.hid hbt
  clear hbt hown' hgrow hb2
  go_wp2_with fail
  go_ret2
  exact ⟨rfl, HT.out⟩

end
section
open Go.RowKit Go.Maps

end
section
open Go.RowKit Go.Maps

def sgn (a b : Int) : Int := if a < b then -1 else if b < a then 1 else 0
theorem ret_i {k : IntKind} {a b : Int} (h : a = b) : Ending.returned (.int k a) = Ending.returned (.int k b) := by rw [h]

theorem list_len (a : ByteArray) : a.data.toList.length = a.size := by simp
end
section
open Go.RowKit Go.Maps

theorem bis_below {B b : Nat} {bs : List Value} {w w' : World} (h : BIs B b bs w) (hb : Below w.heap.size w w') : BIs B b bs w' := by
  have hg : w.grownBy w' none := ⟨hb.os, hb.tape, hb.output, hb.size, fun k hk _ => hb.block k hk⟩
  have go : ∀ p, Lib.BuilderAtF 142 5 B b p bs w → Lib.BuilderAtF 142 5 B b p bs w' := by
    rintro p ⟨h1, v, hk, ho, hne⟩
    exact ⟨h1, v, (hb.block b (Array.getElem?_eq_some_iff.1 hk).1).trans hk, ho.kept hg (by cases hv : v.ownBlock <;> simp), hne⟩
  exact h.imp (go _) (go _)
end
end Go.Proofs.YtjohhahfpgfjdaaGreatDoor
end
section
namespace Go.Proofs.YtjohhahfpgfjdaaGreatDoor
open Go.RowKit Go.Shelf

attribute [local go_sem] Oper.semAt_some

/-- What a loop that collects holds between two rounds. -/
def ColI (s : ByteArray) (w : World) (pre : List (SCel s)) (W : World) : Prop :=
  (∃ v, Boxed W w.heap.size 159 v ∧ W.ownsRow w.heap.size 161 3 v pre.length (celsV s (pre.map (·.1))) ∧ True) ∧ Below w.heap.size w W

set_option maxRecDepth 100000 in
set_option maxHeartbeats 4000000 in
theorem append_in (s : ByteArray) (B : Nat) (w : World) (hs : s.size ≤ 16777216) (hB : w.cell? ⟨B, 0, none⟩ = some (.string s)) :
    CallsIn Fence.wide 7 Tryz.prog 139 #[.slice none 0 0, .func (.func 140) #[] #[.pointer (some ⟨B, 0, none⟩)]] w (RowIs 161 3 (cells s).length (celsV s (cells s)) w) := by
  obtain ⟨i0, hi, hz0, hz1, hz2⟩ := info_parts infoCelP
  have hf1 : Fence.wide.fn 140 := trivial
  have hl := cells_len s
  have hBl := cell_lt hB
  refine callsIn_of_wp_marks Tryz.func139 rfl trivial ?_ rfl
  simp only [Tryz.ntmps139, List.size_toArray, List.length_cons, List.length_nil, Nat.reduceAdd, Nat.reduceSub, Array.replicate_succ, Array.replicate_zero, List.push_toArray, List.append_toArray, List.nil_append, List.cons_append]
  gi_wp2
  have bV := Boxed.new w 159 (.slice none 0 0)
  have hB0 : Below w.heap.size w (w.alloc (.cells #[.slice none 0 0] 159)) := (Below.refl _ w).alloc (Nat.le_refl _) _
  have hsz : (w.alloc (.cells #[.slice none 0 0] 159)).heap.size = w.heap.size + 1 := by simp
  have hBW := cell_more hB (.cells #[.slice none 0 0] 159)
  obtain ⟨W0, hW0⟩ : ∃ W0, w.alloc (.cells #[.slice none 0 0] 159) = W0 := ⟨_, rfl⟩
  rw [hW0] at bV hB0 hsz hBW ⊢
  clear hW0
  refine wpIn_rangeFunc_ownH rfl (by omega) (gf := 140) (lb := #[.pointer (some ⟨B, 0, none⟩)]) rfl trivial (enters_of Tryz.func140 (by kernel_rfl) rfl)
    (cells_stops (7 - 1) (by omega) B s hs W0 hBW) KpS.t (fun W l o o' _ h hc hw => KpS.put W l o o' h hc hw) (Below.refl _ _) (fun _ => rfl)
    (ColI s w)
    (fun _ _ _ => False)
    (OwnFrom.and (Own.from (holdsRow_own _ _ _ _ _ _ _ _) _) (ownFrom_below (Nat.le_refl _) (by omega)))
    (fun _ _ _ _ _ hs _ _ => hs)
    ⟨⟨_, bV, World.ownsRow_nil _ _ _ _, trivial⟩, hB0⟩
    (fun x a' W => ∃ Bx, w.heap.size < Bx ∧ W.heap[Bx]? = some (.cells #[.string (s.extract x.1.1 x.1.2.1), .int .i64 x.1.1, .int .i64 x.1.2.2] 161 (0, 0)) ∧ a' = { tmps := #[.slice none 0 0, .func (.func 140) #[] #[.pointer (some ⟨B, 0, none⟩)], .pointer (some ⟨w.heap.size, 0, none⟩), undef, .slice none 0 0, .pointer (some ⟨Bx, 0, none⟩), .func (.func 140) #[] #[.pointer (some ⟨B, 0, none⟩)], Value.agg #[.string (s.extract x.1.1 x.1.2.1), .int .i64 x.1.1, .int .i64 x.1.2.2], undef, undef, undef, undef, undef], defers := [] })
    (fun x a' _ X Y row hs hg hr => by
      obtain ⟨Bx, h1, h2, h3⟩ := hs
      refine ⟨Bx, h1, (hg.block Bx (Array.getElem?_eq_some_iff.1 h2).1 (fun e => ?_)).trans h2, h3⟩
      obtain ⟨_, o, ho, hc⟩ := hr Bx e.symm
      rw [h2] at ho; cases ho; cases hc)
    ?assign ?body ?done ?stop
  case assign =>
    rintro l pre x W K ⟨⟨v, bV1, hr1, _⟩, hB1⟩ hK
    simp only [celA]
    gi_wp2
    exact hK _ _ ((KeepsOthers.alloc _ _).from _) (KpS.alloc _ _) ⟨⟨v, bV1.alloc _, hr1.alloc _, trivial⟩, hB1.alloc hB1.size _⟩ ⟨W.heap.size, bV1.lt, World.alloc_heap_new W _, rfl⟩
  case body =>
    rintro l pre x a' W hl0 ⟨r, hr⟩ ⟨⟨v, bV1, hr1, _⟩, hB1⟩ ⟨Bx, hBx, bX, rfl⟩ hlt
    have cV := bV1.cell
    have fV := bV1.frozen
    have c0 : W.cell? ⟨Bx, 0, none⟩ = some (.string (s.extract x.1.1 x.1.2.1)) := by simp [World.cell?, bX]
    have c1 : W.cell? ⟨Bx, 1, none⟩ = some (.int .i64 x.1.1) := by simp [World.cell?, bX]
    have c2 : W.cell? ⟨Bx, 2, none⟩ = some (.int .i64 x.1.2.2) := by simp [World.cell?, bX]
    have B1 : pre.length + 1 ≤ maxLen := by unfold maxLen; omega
    have B2 : (pre.length + 1) * 32 ≤ 140737488355328 := by omega
    have B3 : w.heap.size ≤ (W.alloc (.cells #[.string (s.extract x.1.1 x.1.2.1), .int .i64 x.1.1, .int .i64 x.1.2.2] 161)).heap.size := by have := hB1.size; simp; omega
    have H1 := Lib.hid B1
    have H2 := Lib.hid B2
    have H3 := Lib.hid B3
    have HR := Lib.hid hr1
    have HB := Lib.hid hB1
    have HBX := Lib.hid bX
    have HL := Lib.hid hr
    clear B1 B2 B3 hr1 hB1 bX hr
    gi_wp2_with (gi_at_builtin; go_loud (refine wpListIn_append_own _ rfl _ _ 159 rfl w.heap.size 161 i0 (.agg #[.string .empty, .int .i64 0, .int .i64 0]) 3 32 Tryz.underlying159 hi hz0 hz1 hz2 rfl (by decide) _ _ _ rfl (HR.out.alloc _) ⟨W.heap.size, 0, none⟩ 1 1 (celV s x.1) rfl rfl (cells_new _ _ _) (celV_one s x.1) H1.out H2.out H3.out ?_); intro v' w1 hown' hgrow _; obtain ⟨g', cap', rfl⟩ := ownsRow_succ hown'; obtain ⟨hv1, hv2, hr2, hk2, hb2⟩ := bV1.appended (by decide) HR.out HB.out.size (Nat.le_refl _) hown' hgrow; have hc1 := hv1.cell; have hf1 := hv1.frozen)
    refine ⟨hk2.from _, KpS.t (KpS.t (KpS.alloc W _) (KpS.grown hgrow (own_noWalk (HR.out.alloc _)) ?_)) (KpS.set _ _ _ _ (by omega)), ⟨⟨_, hv2, ?_, trivial⟩, HB.out.trans hb2⟩⟩
    · intro e
      have := (HR.out.lt B e.symm).1
      omega
    · rw [List.map_append, List.length_append]
      show World.ownsRow _ _ _ _ _ (_ + 1) (celsV s (_ ++ [x.1]))
      rw [celsV_snoc]
      exact hr2
  case done =>
    rintro D ys W hD hys ⟨⟨v, bV1, hr1, _⟩, hB1⟩ hK
    have cV := bV1.cell
    rw [hys, show ys.length = (cells s).length by rw [← hys]; simp] at hr1
    have HR := Lib.hid hr1
    clear hr1
    gi_wp2
    refine ⟨by simp, .inl ⟨_, _, rfl, run_takeDeferred hK, ?_⟩⟩
    exact ⟨_, results_tmp rfl _ _ _, v, rfl, ownsRow_putObj HR.out _ hK rfl, hB1.trans (belowK_b (w := w) (Nat.le_refl _) W D _ _ (by omega) hK rfl rfl)⟩
  case stop =>
    rintro D c pre W _ _ h _
    exact h.elim

set_option maxRecDepth 100000 in
set_option maxHeartbeats 1000000 in
theorem collect_pro (s : ByteArray) (B : Nat) (w : World) (hs : s.size ≤ 16777216) (hB : w.cell? ⟨B, 0, none⟩ = some (.string s)) :
    Calls Tryz.prog 113 #[.func (.func 140) #[] #[.pointer (some ⟨B, 0, none⟩)]] w (RowIs 161 3 (cells s).length (celsV s (cells s)) w) := by
  have HS := Lib.hid hs
  have HB := Lib.hid hB
  clear hs hB
  go_enter Tryz.func113, Tryz.ntmps113
  go_wp2_with fail
  refine (callsIn_wide.1 (append_in s B _ HS.out HB.out)).mono ?_
  rintro e w1 ⟨v, rfl, hr, hb⟩
  have HR := Lib.hid hr
  have HZ := Lib.hid hb
  clear hr hb
  go_wp2_with fail
  go_ret
  exact ⟨v, rfl, HR.out, HZ.out⟩

set_option maxRecDepth 100000 in
set_option maxHeartbeats 1000000 in
theorem cells_pro (s : ByteArray) (w : World) (hs : s.size ≤ 16777216) :
    Calls Tryz.prog 88 #[.string s] w (RowIs 161 3 (cells s).length (celsV s (cells s)) w) := by
  have HS := Lib.hid hs
  clear hs
  go_enter Tryz.func88, Tryz.ntmps88
  go_wp2_with fail
  refine (callsIn_wide.1 (cells_in 1 s _)).mono ?_
  rintro e w1 ⟨rfl, rfl⟩
  have hb : (w.alloc (.cells #[.string s] 9)).cell? ⟨w.heap.size, 0, none⟩ = some (.string s) := (Boxed.new w 9 (.string s)).cell
  have HB := Lib.hid hb
  clear hb
  go_wp2_with fail
  refine (collect_pro s w.heap.size _ HS.out HB.out).mono ?_
  rintro e w2 ⟨v, rfl, hr, hb⟩
  have HR := Lib.hid hr
  have HZ := Lib.hid hb
  clear hr hb
  go_wp2_with fail
  go_ret
  have h1 : Below w.heap.size w (w.alloc (.cells #[.string s] 9)) := (Below.refl _ w).alloc (Nat.le_refl _) _
  exact ⟨v, rfl, World.ownsRow.mono HR.out (by simp), h1.trans (HZ.out.mono (by simp))⟩
end Go.Proofs.YtjohhahfpgfjdaaGreatDoor
end
