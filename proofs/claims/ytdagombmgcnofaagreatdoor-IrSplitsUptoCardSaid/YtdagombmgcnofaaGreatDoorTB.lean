/- The program's Good and Plain of layer 2. What a strings.Builder's methods do at this program, whose loader refuses the way on which copyCheck panics. Fold of the document's answer for layer 2. sign, bytes, first, codes of the document's answer for layer 2: how parts of two texts compare. The program's Fold of layer 2: a builder in a range over a text. -/
import Derived.Test.YtdagombmgcnofaaGreatDoorTA
import Derived.Test.YtdagombmgcnofaaGreatDoorShelf
import Derived.Lib.FrozenHead2
import Derived.Lib.OthersKept
import Derived.Lib.RuneBytes
import Derived.Deep.QuietTactic
import Derived.BigQuiet
import Derived.WalkLawsBesides
import Derived.Laws.Cover4
import Derived.IntWalk
namespace Go.Proofs.YtdagombmgcnofaaGreatDoor
section
open Go.RowKit Go.Maps

/-- What the library's own variables hold: the tables of utf8, and the length up to which it searches by one instruction. -/
def Tabs (w : World) : Prop := Lib.Utf8Tabs 6 7 w ∧ ∃ m, w.cell? ⟨2, 0, none⟩ = some (.int .i64 m)
theorem Tabs.below {B : Nat} {w w' : World} (h : Tabs w) (hb : Below B w w') (hB : w.heap.size ≤ B) : Tabs w' := by
  obtain ⟨⟨h1, h2⟩, m, h3⟩ := h
  have go : ∀ (b o : Nat) (v : Value), w.cell? ⟨b, o, none⟩ = some v → w'.cell? ⟨b, o, none⟩ = some v := fun b o v e => (hb.cell (p := ⟨b, o, none⟩) (Nat.lt_of_lt_of_le (cell_lt e) hB)).trans e
  exact ⟨⟨fun c hc => go _ _ _ (h1 c hc), fun i hi => ⟨go _ _ _ (h2 i hi).1, go _ _ _ (h2 i hi).2⟩⟩, m, go _ _ _ h3⟩
theorem Tabs.lt {w : World} (h : Tabs w) : 3 ≤ w.heap.size := by
  have := cell_lt (h.1.2 0 (by omega)).1
  have e : 2 ≤ 7 := by decide
  omega
theorem get!_ext (s : ByteArray) (i k : Nat) : (s.extract i s.size).get! k = s.get! (i + k) := by
  have h : (s.extract i s.size).data = s.data.extract i s.size := by simp
  show (s.extract i s.size).data[k]! = s.data[i + k]!
  rw [h]
  simp only [Array.getElem!_eq_getD, Array.getD_eq_getD_getElem?]
  rw [Array.getElem?_extract]
  by_cases hk : k < s.size - i
  · rw [if_pos (by simpa using hk)]
  · rw [if_neg (by simpa using hk)]
    have : s.data[i + k]? = none := Array.getElem?_eq_none (by show s.size ≤ i + k; omega)
    rw [this]
theorem decode_tail (s : ByteArray) (i : Nat) (h : i < s.size) : Lib.decodeGo (s.extract i s.size) = Utf8.decode s i := by
  have hz : (s.extract i s.size).size = s.size - i := by rw [ByteArray.size_extract]; omega
  unfold Lib.decodeGo
  rw [if_neg (by omega), Lib.decode_at, Lib.decode_at, hz]
  simp only [get!_ext, Nat.zero_add, Nat.add_zero, Nat.sub_zero]

set_option maxRecDepth 100000 in
set_option maxHeartbeats 1000000 in
theorem bad_pro (s : ByteArray) (i : Nat) (w : World) (hi : i < s.size) (hs : s.size ≤ 16777216) (hT : Tabs w) :
    Calls Tryz.prog 198 #[.string s, .int .i64 i, .int .i32 (Utf8.decode s i).1] w (Says (.bool (badB (i, (Utf8.decode s i).1, (Utf8.decode s i).2))) w) := by
  have hd := Lib.hid (decode_tail s i hi)
  obtain ⟨c, hc⟩ : ∃ c : Nat × Nat, Utf8.decode s i = c := ⟨_, rfl⟩
  rw [hc]
  have HC := Lib.hid hc
  clear hc
  have b1 : (0 : Int) ≤ i := by omega
  have b2 : (i : Int) ≤ s.size := by omega
  have b3 : (s.size : Int) ≤ 16777216 := by omega
  have HT := Lib.hid hT
  clear hi hs hT
  by_cases h : c.1 = 65533
  · have t1 : ((c.1 : Int) != 65533) = false := by simp; omega
    have HB := Lib.hid (show badB (i, c.1, c.2) = ((c.2 : Int) == 1) by rw [Bool.eq_iff_iff]; simp [badB, h]; omega)
    clear h
    go_enter Tryz.func198, Tryz.ntmps198
    go_wp2_with fail
    refine (Tryz.utf8_DecodeRuneInString _ _ HT.out.1).mono ?_
    rw [hd.out, HC.out]
    rintro e w1 ⟨rfl, hb⟩
    have HZ := Lib.hid hb
    clear hb
    go_wp2_with fail
    go_ret
    rw [HB.out]
    exact ⟨rfl, HZ.out⟩
  · have t1 : ((c.1 : Int) != 65533) = true := by simp; omega
    have HB := Lib.hid (show badB (i, c.1, c.2) = false by simp [badB, h])
    clear h
    go_enter Tryz.func198, Tryz.ntmps198
    go_wp2_with fail
    go_ret
    rw [HB.out]
    exact ⟨rfl, Below.refl _ _⟩

theorem find_app {p : Ch → Bool} {acc rest : List Ch} {c : Ch} (hn : ∀ d ∈ acc, p d = false) (hp : p c = true) : (acc ++ c :: rest).find? p = some c := by
  rw [List.find?_append, List.find?_eq_none.2 (fun d hd => by simp [hn d hd])]
  simp [hp]
theorem find_nil {p : Ch → Bool} {l : List Ch} (hn : ∀ d ∈ l, p d = false) : l.find? p = none := List.find?_eq_none.2 fun d hd => by simp [hn d hd]
theorem pro_hit {p : Ch → Bool} {s : ByteArray} {w w' : World} {acc rest : List Ch} {c : Ch} (h : acc ++ c :: rest = chars s) (hn : ∀ d ∈ acc, p d = false) (hp : p c = true) (hb : Below w.heap.size w w') :
    Finds p s w (.returned (.tuple #[.int .i64 c.1, .bool false])) w' := by
  unfold Finds
  rw [← h, find_app hn hp]
  exact ⟨rfl, hb⟩
theorem pro_miss {p : Ch → Bool} {s : ByteArray} {w w' : World} {acc : List Ch} (h : acc = chars s) (hn : ∀ d ∈ acc, p d = false) (hb : Below w.heap.size w w') :
    Finds p s w (.returned (.tuple #[.int .i64 0, .bool true])) w' := by
  unfold Finds
  rw [← h, find_nil hn]
  exact ⟨rfl, hb⟩
theorem chs_split {s : ByteArray} {acc : List Ch} {pos f : Nat} (hp : pos < s.size) (h : acc ++ chs s (f + 1) pos = chars s) :
    acc ++ (pos, (Utf8.decode s pos).1, (Utf8.decode s pos).2) :: chs s f (pos + (Utf8.decode s pos).2) = chars s := by
  rw [← h]; simp [chs, hp]
theorem chs_join {s : ByteArray} {acc : List Ch} {c : Ch} {r : List Ch} (h : acc ++ c :: r = chars s) : (acc ++ [c]) ++ r = chars s := by rw [← h]; simp

set_option maxRecDepth 100000 in
set_option maxHeartbeats 2000000 in
theorem plain_pro (s : ByteArray) (w : World) (hs : s.size ≤ 16777216) (hT : Tabs w) : Calls Tryz.prog 163 #[.string s] w (Finds unplain s w) := by
  have HS := Lib.hid hs
  have HTW := Lib.hid hT
  clear hs hT
  go_enter Tryz.func163, Tryz.ntmps163
  go_wp2_with fail
  go_loopw [] (fun wr => ∃ (pos fuel : Nat) (acc : List Ch), wr.heap[w.heap.size]? = some (.stringIter s pos) ∧ Below w.heap.size w wr ∧ acc ++ chs s fuel pos = chars s ∧ s.size ≤ pos + fuel ∧ ∀ d ∈ acc, unplain d = false) (fun wr => s.size - wr.iterPos w.heap.size)
  case atStart =>
    refine ⟨0, s.size, [], ?_, (Below.refl _ w).alloc (Nat.le_refl _) _, rfl, by omega, by simp⟩
    have := World.iter_heap w s 0
    simpa using this
  case round =>
    obtain ⟨pos, fuel, acc, hit, hbw, hacc, hfu, hn⟩ := hrel
    have HI := Lib.hid hit
    have HN := Lib.hid hn
    by_cases hp : pos < s.size
    · have hnx : ∀ ty, (Instr.next (.pointer (some ⟨w.heap.size, 0, none⟩)) true ty).run Tryz.prog wr = _ := fun ty => Lib.run_next_any_at wr w.heap.size s pos ty hit hp
      have hwd := width_pos s pos hp
      have hit2 := Lib.iterAt_heap wr w.heap.size s pos (pos + (Utf8.decode s pos).2) hit
      have hbw2 := Lib.below_iterAt hbw (k := w.heap.size) (Nat.le_refl _) s (pos + (Utf8.decode s pos).2)
      obtain ⟨f, rfl⟩ : ∃ f, fuel = f + 1 := ⟨fuel - 1, by omega⟩
      have HA := Lib.hid (chs_split hp hacc)
      have HT := Lib.hid (HTW.out.below hbw2 (Nat.le_refl _))
      have HI2 := Lib.hid hit2
      have HB2 := Lib.hid hbw2
      have HP := Lib.hid hp
      clear hacc hit hbw hit2 hbw2 hn hp
      cases hbad : badB (pos, (Utf8.decode s pos).1, (Utf8.decode s pos).2)
      · have HD := Lib.hid hbad
        cases h1 : inB ((Utf8.decode s pos).1 : Int) 0 31
        · cases h2 : inB ((Utf8.decode s pos).1 : Int) 127 159
          · have HU := Lib.hid (show unplain (pos, (Utf8.decode s pos).1, (Utf8.decode s pos).2) = false by simp [unplain, ctl, hbad, h1, h2])
            clear hbad
            go_wp2_with (first | (go_at_call 198; refine (bad_pro s pos _ HP.out HS.out HT.out).mono ?_; rw [HD.out]; rintro e w1 ⟨rfl, hb⟩; have hit3 := (hb.block w.heap.size (Array.getElem?_eq_some_iff.1 HI2.out).1).trans HI2.out; have HI3 := Lib.hid hit3; have HB3 := Lib.hid (HB2.out.trans (hb.mono HB2.out.size)); clear hb hit3) | (go_at_call 199; refine (within_pro _ _ _ _).mono ?_; rintro e w2 ⟨rfl, rfl⟩))
            go_roundw
            case rel =>
              refine ⟨_, f, _, HI3.out, HB3.out, chs_join HA.out, by omega, fun d hd => ?_⟩
              rcases List.mem_append.1 hd with h | h
              · exact HN.out d h
              · rw [List.mem_singleton.1 h]; exact HU.out
            case measure => simp only [World.iterPos, HI3.out, HI.out]; have := HP.out; omega
          · have HU := Lib.hid (show unplain (pos, (Utf8.decode s pos).1, (Utf8.decode s pos).2) = true by simp [unplain, ctl, h2])
            clear hbad
            go_wp2_with (first | (go_at_call 198; refine (bad_pro s pos _ HP.out HS.out HT.out).mono ?_; rw [HD.out]; rintro e w1 ⟨rfl, hb⟩; have hit3 := (hb.block w.heap.size (Array.getElem?_eq_some_iff.1 HI2.out).1).trans HI2.out; have HI3 := Lib.hid hit3; have HB3 := Lib.hid (HB2.out.trans (hb.mono HB2.out.size)); clear hb hit3) | (go_at_call 199; refine (within_pro _ _ _ _).mono ?_; rintro e w2 ⟨rfl, rfl⟩))
            go_ret2
            exact pro_hit HA.out HN.out HU.out HB3.out
        · have HU := Lib.hid (show unplain (pos, (Utf8.decode s pos).1, (Utf8.decode s pos).2) = true by simp [unplain, ctl, h1])
          clear hbad
          go_wp2_with (first | (go_at_call 198; refine (bad_pro s pos _ HP.out HS.out HT.out).mono ?_; rw [HD.out]; rintro e w1 ⟨rfl, hb⟩; have hit3 := (hb.block w.heap.size (Array.getElem?_eq_some_iff.1 HI2.out).1).trans HI2.out; have HI3 := Lib.hid hit3; have HB3 := Lib.hid (HB2.out.trans (hb.mono HB2.out.size)); clear hb hit3) | (go_at_call 199; refine (within_pro _ _ _ _).mono ?_; rintro e w2 ⟨rfl, rfl⟩))
          go_ret2
          exact pro_hit HA.out HN.out HU.out HB3.out
      · have HD := Lib.hid hbad
        have HU := Lib.hid (show unplain (pos, (Utf8.decode s pos).1, (Utf8.decode s pos).2) = true by simp [unplain, hbad])
        clear hbad
        go_wp2_with (first | (go_at_call 198; refine (bad_pro s pos _ HP.out HS.out HT.out).mono ?_; rw [HD.out]; rintro e w1 ⟨rfl, hb⟩; have hit3 := (hb.block w.heap.size (Array.getElem?_eq_some_iff.1 HI2.out).1).trans HI2.out; have HI3 := Lib.hid hit3; have HB3 := Lib.hid (HB2.out.trans (hb.mono HB2.out.size)); clear hb hit3) | (go_at_call 199; refine (within_pro _ _ _ _).mono ?_; rintro e w2 ⟨rfl, rfl⟩))
        go_ret2
        exact pro_hit HA.out HN.out HU.out HB3.out
    · have hnx : ∀ ty, (Instr.next (.pointer (some ⟨w.heap.size, 0, none⟩)) true ty).run Tryz.prog wr = _ := fun ty => Lib.run_next_end_at wr w.heap.size s pos ty hit hp
      rw [chs_end s fuel _ hp, List.append_nil] at hacc
      have HA := Lib.hid hacc
      have HB := Lib.hid hbw
      clear hacc hit hbw hn
      go_wp2_with fail
      go_ret2
      exact pro_miss HA.out HN.out HB.out
end
section
open Go.RowKit Go.Maps

theorem sizeB : (Tryz.prog.info? 169).map (·.size) = some 2 := by kernel_rfl
theorem infoB5 : (Tryz.prog.info? 5).map (fun i => (i.zero, i.size, i.bytes)) = some (some (.int .u8 0), 1, 1) := by kernel_rfl
abbrev BAt (B b : Nat) (bs : List Value) (w : World) : Prop := Lib.BuilderAtF 169 5 B b (.pointer (some ⟨b, 0, none⟩)) bs w
abbrev BIs (B b : Nat) (bs : List Value) (w : World) : Prop := Lib.IsBuilderF 169 5 B b bs w
/-- A call has left the builder with bs, and all else but rows of bytes as it was. -/
def Built (B b : Nat) (bs : List Value) (w w' : World) : Prop := BAt B b bs w' ∧ Below B w w' ∧ Lib.OthersKept 5 (some b) w w'
def Wrote (v : Value) (B b : Nat) (bs : List Value) (w : World) (e : Ending) (w' : World) : Prop := e = .returned v ∧ Built B b bs w w'

set_option maxRecDepth 100000 in
set_option maxHeartbeats 1000000 in
theorem check_used (b : Nat) (w : World) (h0 : w.cell? ⟨b, 0, none⟩ = some (.pointer (some ⟨b, 0, none⟩))) :
    Calls Tryz.prog 128 #[.pointer (some ⟨b, 0, none⟩)] w fun e w' => e = .returned (.tuple #[]) ∧ w' = w := by
  obtain ⟨j, hj, _⟩ := Option.map_eq_some_iff.1 sizeB
  go_enter Tryz.func128, Tryz.ntmps128
  go_wp2
  rw [Lib.run_neq_ptr_same w _ Tryz.underlying166 hj]
  go_wp2
  go_end0
  exact ⟨rfl, rfl⟩

set_option maxRecDepth 100000 in
set_option maxHeartbeats 1000000 in
theorem check_fresh (b : Nat) (w : World) (h0 : w.cell? ⟨b, 0, none⟩ = some (.pointer none)) (hsh : w.shape? b = some (169, 2)) (hfz : w.frozen? ⟨b, 0, none⟩ = false) :
    Calls Tryz.prog 128 #[.pointer (some ⟨b, 0, none⟩)] w fun e w' => e = .returned (.tuple #[]) ∧ w' = w.setCell ⟨b, 0, none⟩ (.pointer (some ⟨b, 0, none⟩)) := by
  obtain ⟨j, hj, hjs⟩ := Option.map_eq_some_iff.1 sizeB
  go_enter Tryz.func128, Tryz.ntmps128
  go_wp2
  rw [Lib.run_to_unsafe w ⟨b, 0, none⟩ Tryz.underlying166 Tryz.underlying220 hj (by rw [hjs]; decide) hsh (Nat.zero_lt_succ 1)]
  simp only [Result.andThen]
  rw [Oper.upon_value]
  go_wp2
  rw [run_callFunc_extern Tryz.func170 (by kernel_rfl) (by kernel_rfl) (by kernel_rfl) (e := Extern.AbiNoEscape.same) (by kernel_rfl)]
  rw [Lib.run_noEscape]
  simp only [Result.andThen]
  rw [Oper.upon_value]
  go_wp2
  rw [Lib.run_from_unsafe w ⟨b, 0, none⟩ Tryz.underlying220 Tryz.underlying166 hj hsh Tryz.Builder_Extra_169.liesBuilder]
  simp only [Result.andThen]
  rw [Oper.upon_value]
  go_wp2
  go_end0
  exact ⟨rfl, rfl⟩

theorem check_pro (B b : Nat) (bs : List Value) (w : World) (h : BIs B b bs w) :
    Calls Tryz.prog 128 #[.pointer (some ⟨b, 0, none⟩)] w (Wrote (.tuple #[]) B b bs w) := by
  rcases h with h | h
  · refine (check_fresh b w h.cell0 h.shape h.frozen0).mono ?_
    rintro e w' ⟨rfl, rfl⟩
    exact ⟨rfl, h.used _, (Below.refl B w).setCell (p := ⟨b, 0, none⟩) h.1 _, (Lib.OthersKept.refl _ _ w).setCell ⟨b, 0, none⟩ rfl _⟩
  · refine (check_used b w h.cell0).mono ?_
    rintro e w' ⟨rfl, rfl⟩
    exact ⟨rfl, h, Below.refl B _, Lib.OthersKept.refl _ _ _⟩
/-- What the slice of a builder's bytes looks like. -/
theorem row_form {B : Nat} {v : Value} {n : Nat} {xs : List Value} {w : World} (h : w.ownsRowF B 5 1 v n xs) : ∃ a c, v = .slice a n c := by
  rcases h.2 with ⟨hv, h0⟩ | ⟨g, cap, cur, fz, hv, _⟩
  · exact ⟨none, 0, by rw [hv, h0]⟩
  · exact ⟨_, _, hv⟩
theorem row_some {B : Nat} {v : Value} {n : Nat} {xs : List Value} {w : World} (h : w.ownsRowF B 5 1 v n xs) (hn : 0 < n) : ∃ g c, v = .slice (some ⟨g, 0, none⟩) n c := by
  rcases h.2 with ⟨_, h0⟩ | ⟨g, cap, cur, fz, hv, _⟩
  · omega
  · exact ⟨_, _, hv⟩
/-- Behind an append to the bytes, and the store of the longer slice. -/
theorem built_put {B b : Nat} {v v' : Value} {bs more : List Value} {w w1 w2 : World} {o : Obj} (h1 : B ≤ b) (hbk : w1.heap[b]? = some (.cells #[.pointer (some ⟨b, 0, none⟩), v] 169 (0, 0)))
    (hown : w1.ownsRowF B 5 1 v bs.length bs) (hne : v.ownBlock ≠ some b) (hb1 : Below B w w1) (hk1 : Lib.OthersKept 5 (some b) w w1)
    (hown' : w2.ownsRowF B 5 1 v' (bs ++ more).length (bs ++ more)) (hgrow : (w1.alloc o).grownBy w2 v.ownBlock) :
    w2.heap[b]? = some (.cells #[.pointer (some ⟨b, 0, none⟩), v] 169 (0, 0)) ∧ Built B b (bs ++ more) w (w2.setCell ⟨b, 1, none⟩ v') := by
  have hlt : b < w1.heap.size := (Array.getElem?_eq_some_iff.1 hbk).1
  have hb2 : w2.heap[b]? = some (.cells #[.pointer (some ⟨b, 0, none⟩), v] 169 (0, 0)) := by
    rw [hgrow.block b (by simp; omega) (fun e => hne e.symm), Lib.alloc_old w1 _ b hlt]
    exact hbk
  refine ⟨hb2, Lib.BuilderAtF.put (T := 169) (e := 5) h1 hb2 hown' (by decide), ?_, ((hk1.alloc _).grown hgrow (Lib.ownsRowF_kind (hown.alloc _))).setCell ⟨b, 1, none⟩ rfl _⟩
  exact ((hb1.alloc (by have := hb1.size; omega) _).grown hgrow (by have := hb1.size; simp; omega) (fun k hk => (hown.lt k hk).1)).setCell (p := ⟨b, 1, none⟩) h1 _
theorem cells_one (w : World) (v : Value) (t : TypeId) : ∀ (j : Nat) (u : Value), [v][j]? = some u → (w.alloc (.cells #[v] t)).cell? ((⟨w.heap.size, 0, none⟩ : Addr).add j) = some u := fun j u hj => cells_new w #[v] t j u (by simpa using hj)

set_option maxRecDepth 100000 in
set_option maxHeartbeats 2000000 in
theorem byte_pro (B b : Nat) (bs : List Value) (c : Int) (w : World) (h : BIs B b bs w) (hlen : bs.length + 1 ≤ 140737488355328) (hBw : B ≤ w.heap.size) :
    Calls Tryz.prog 265 #[.pointer (some ⟨b, 0, none⟩), .int .u8 c] w (Wrote .nilIface B b (bs ++ [.int .u8 c]) w) := by
  obtain ⟨i0, hi, hz0, hz1, hz2⟩ := info_parts infoB5
  go_enter Tryz.func265, Tryz.ntmps265
  go_wp2_with fail
  refine (check_pro B b bs _ h).mono ?_
  rintro e w1 ⟨rfl, ⟨hB, v, hbk, hown, hne⟩, hb1, hk1⟩
  have c1 : w1.cell? ⟨b, 1, none⟩ = some v := by rw [Lib.cell_of_heap hbk]; rfl
  have K := Lib.hid (fun (w2 : World) (v' : Value) (o : Obj) => built_put (v' := v') (more := [.int .u8 c]) (w2 := w2) (o := o) hB hbk hown hne hb1 hk1)
  have HO := Lib.hid hown
  have L1 := Lib.hid (show bs.length + 1 ≤ maxLen by unfold maxLen; omega)
  have L2 := Lib.hid (show (bs.length + 1) * 1 ≤ 140737488355328 by omega)
  have L3 := Lib.hid (show B ≤ (w1.alloc (.cells #[.int .u8 c] 5)).heap.size by have := hb1.size; simp; omega)
  clear hlen hBw hbk hown hne hb1 hk1 h
  go_wp2_with (at_builtin; go_loud (refine wpList_append_ownF _ rfl _ _ 167 rfl B 5 i0 (.int .u8 0) 1 1 Tryz.underlying167 hi hz0 hz1 hz2 rfl (by decide) _ _ _ rfl (HO.out.alloc _) ⟨w1.heap.size, 0, none⟩ 1 1 [.int .u8 c] rfl rfl (cells_one _ _ _) (by intro u hu; simp at hu; subst hu; rfl) L1.out L2.out L3.out ?_); intro v' w2 hown' hgrow _; obtain ⟨g, cap, rfl⟩ := row_some hown' (Nat.succ_pos _); obtain ⟨hb2, hbt⟩ := K.out w2 _ _ (by simpa using hown') hgrow; have d0 : w2.cell? ⟨b, 0, none⟩ = some (.pointer (some ⟨b, 0, none⟩)) := (by rw [Lib.cell_of_heap hb2]; rfl); have d1 : w2.cell? ⟨b, 1, none⟩ = some v := (by rw [Lib.cell_of_heap hb2]; rfl); have f1 : w2.frozen? ⟨b, 1, none⟩ = false := Lib.frozen_of_heap hb2 1; have HT := Lib.hid hbt; clear hbt hown' hgrow hb2)
  go_ret
  exact ⟨rfl, HT.out⟩

theorem built_put0 {B b : Nat} {v v' : Value} {bs more : List Value} {w w1 w2 : World} (h1 : B ≤ b) (hbk : w1.heap[b]? = some (.cells #[.pointer (some ⟨b, 0, none⟩), v] 169 (0, 0)))
    (hown : w1.ownsRowF B 5 1 v bs.length bs) (hne : v.ownBlock ≠ some b) (hb1 : Below B w w1) (hk1 : Lib.OthersKept 5 (some b) w w1)
    (hown' : w2.ownsRowF B 5 1 v' (bs ++ more).length (bs ++ more)) (hgrow : w1.grownBy w2 v.ownBlock) :
    w2.heap[b]? = some (.cells #[.pointer (some ⟨b, 0, none⟩), v] 169 (0, 0)) ∧ Built B b (bs ++ more) w (w2.setCell ⟨b, 1, none⟩ v') := by
  have hlt : b < w1.heap.size := (Array.getElem?_eq_some_iff.1 hbk).1
  have hb2 : w2.heap[b]? = some (.cells #[.pointer (some ⟨b, 0, none⟩), v] 169 (0, 0)) := by
    rw [hgrow.block b hlt (fun e => hne e.symm)]
    exact hbk
  refine ⟨hb2, Lib.BuilderAtF.put (T := 169) (e := 5) h1 hb2 hown' (by decide), ?_, (hk1.grown hgrow (Lib.ownsRowF_kind hown)).setCell ⟨b, 1, none⟩ rfl _⟩
  exact (hb1.grown hgrow (by have := hb1.size; omega) (fun k hk => (hown.lt k hk).1)).setCell (p := ⟨b, 1, none⟩) h1 _

set_option maxRecDepth 100000 in
set_option maxHeartbeats 2000000 in
theorem str_pro (B b : Nat) (bs : List Value) (t : ByteArray) (w : World) (h : BIs B b bs w) (hlen : bs.length + t.size ≤ 140737488355328) (hBw : B ≤ w.heap.size) :
    Calls Tryz.prog 77 #[.pointer (some ⟨b, 0, none⟩), .string t] w (Wrote (.tuple #[.int .i64 t.size, .nilIface]) B b (bs ++ Lib.strCells t) w) := by
  obtain ⟨i0, hi, hz0, hz1, hz2⟩ := info_parts infoB5
  go_enter Tryz.func77, Tryz.ntmps77
  go_wp2_with fail
  refine (check_pro B b bs _ h).mono ?_
  rintro e w1 ⟨rfl, ⟨hB, v, hbk, hown, hne⟩, hb1, hk1⟩
  have c1 : w1.cell? ⟨b, 1, none⟩ = some v := by rw [Lib.cell_of_heap hbk]; rfl
  have K := Lib.hid (fun (w2 : World) (v' : Value) => built_put0 (v' := v') (more := Lib.strCells t) (w2 := w2) hB hbk hown hne hb1 hk1)
  have HO := Lib.hid hown
  have L1 := Lib.hid (show bs.length + t.size ≤ maxLen by unfold maxLen; omega)
  have L2 := Lib.hid (show (bs.length + t.size) * 1 ≤ 140737488355328 by omega)
  have L3 := Lib.hid (show B ≤ w1.heap.size by have := hb1.size; omega)
  clear hlen hBw hbk hown hne hb1 hk1 h
  go_wp2_with (at_builtin; go_loud (refine Lib.wpList_append_own_stringF _ rfl _ _ 167 9 rfl B 5 i0 Tryz.underlying167 Tryz.underlying9 hi hz0 hz1 hz2 _ _ _ rfl HO.out t rfl ?c3 ?c4 ?c5 ?_))
  case c3 => exact L1.out
  case c4 => have := L2.out; omega
  case c5 => exact L3.out
  intro v' w2 hown' hgrow _
  obtain ⟨g, cap, rfl⟩ := row_form hown'
  obtain ⟨hb2, hbt⟩ := K.out w2 _ (by simpa [Lib.strCells_length] using hown') hgrow
  have d0 : w2.cell? ⟨b, 0, none⟩ = some (.pointer (some ⟨b, 0, none⟩)) := by rw [Lib.cell_of_heap hb2]; rfl
  have d1 : w2.cell? ⟨b, 1, none⟩ = some v := by rw [Lib.cell_of_heap hb2]; rfl
  have f1 : w2.frozen? ⟨b, 1, none⟩ = false := Lib.frozen_of_heap hb2 1
  have HT := Lib.hid hbt
  clear hbt hown' hgrow hb2
  go_wp2_with fail
  go_ret2
  exact ⟨rfl, HT.out⟩

set_option maxRecDepth 100000 in
set_option maxHeartbeats 2000000 in
theorem rune_pro (B b : Nat) (bs : List Value) (r : Int) (hr : -2147483648 ≤ r ∧ r ≤ 2147483647) (w : World) (h : BIs B b bs w) (hlen : bs.length + 4 ≤ 140737488355328) (hBw : B ≤ w.heap.size) :
    Calls Tryz.prog 266 #[.pointer (some ⟨b, 0, none⟩), .int .i32 r] w (Wrote (.tuple #[.int .i64 (Lib.runeCells r).length, .nilIface]) B b (bs ++ Lib.runeCells r) w) := by
  have hk4 := Lib.runeCells_le r
  have HR := Lib.hid hr
  clear hr
  go_enter Tryz.func266, Tryz.ntmps266
  go_wp2_with fail
  refine (check_pro B b bs _ h).mono ?_
  rintro e w1 ⟨rfl, ⟨hB, v, hbk, hown, hne⟩, hb1, hk1⟩
  obtain ⟨ao, cap, rfl⟩ := row_form hown
  have c1 : w1.cell? ⟨b, 1, none⟩ = some (.slice ao bs.length cap) := by rw [Lib.cell_of_heap hbk]; rfl
  have K := Lib.hid (fun (w2 : World) (v' : Value) (o : Obj) => built_put (v' := v') (more := Lib.runeCells r) (w2 := w2) (o := o) hB hbk hown hne hb1 hk1)
  have HO := Lib.hid hown
  have L1 := Lib.hid hlen
  have L3 := Lib.hid (show B ≤ w1.heap.size by have := hb1.size; omega)
  clear hlen hBw hbk hown hne hb1 hk1 h
  go_wp2_with fail
  refine (Tryz.utf8_AppendRune_row B _ bs.length bs r HR.out.1 HR.out.2 _ HO.out L1.out L3.out).mono ?_
  rintro e w2 ⟨v', rfl, hown', o, hgrow⟩
  obtain ⟨g, cap', rfl⟩ := row_some hown' (by omega)
  obtain ⟨hb2, hbt⟩ := K.out w2 _ _ (by simpa using hown') hgrow
  have d0 : w2.cell? ⟨b, 0, none⟩ = some (.pointer (some ⟨b, 0, none⟩)) := by rw [Lib.cell_of_heap hb2]; rfl
  have d1 : w2.cell? ⟨b, 1, none⟩ = some (.slice ao bs.length cap) := by rw [Lib.cell_of_heap hb2]; rfl
  have f1 : w2.frozen? ⟨b, 1, none⟩ = false := Lib.frozen_of_heap hb2 1
  have HT := Lib.hid hbt
  have L0 := L1.out
  clear hbt hown' hgrow hb2
  go_wp2_with fail
  go_ret2
  refine ⟨?_, HT.out⟩
  have e : ((bs.length : Int) + ((Lib.runeCells r).length : Int) - (bs.length : Int)) = ((Lib.runeCells r).length : Int) := by omega
  simp [e]
end
section
open Go.RowKit Go.Maps

theorem one32 : (ByteArray.mk #[32]).size = 1 := rfl
theorem ret_strF {a b : ByteArray} (h : a = b) : Ending.returned (.string a) = Ending.returned (.string b) := by rw [h]
/-- What Fold lays for one character. -/
def foldCh (s : ByteArray) (c : Ch) : ByteArray := if badB c then s.extract c.1 (c.1 + 1) else Utf8.encode (sml c.2.1)
/-- What has been laid, and whether a blank waits. -/
def foldStep (s : ByteArray) (st : ByteArray × Bool) (c : Ch) : ByteArray × Bool :=
  if c.2.1 = 32 then (st.1, !st.1.toList.isEmpty) else ((if st.2 then st.1 ++ ⟨#[32]⟩ else st.1) ++ foldCh s c, false)
def foldOf (s : ByteArray) (l : List Ch) : ByteArray × Bool := l.foldl (foldStep s) (ByteArray.empty, false)
def fold (s : ByteArray) : ByteArray := (foldOf s (chars s)).1
theorem foldOf_take {s : ByteArray} {l : List Ch} {k : Nat} {c : Ch} (h : l[k]? = some c) : foldOf s (l.take (k + 1)) = foldStep s (foldOf s (l.take k)) c := by
  obtain ⟨hk, e⟩ := List.getElem?_eq_some_iff.1 h
  unfold foldOf
  rw [List.take_succ_eq_append_getElem hk, List.foldl_append, e]
  rfl

set_option maxRecDepth 100000 in
set_option maxHeartbeats 1000000 in
theorem fold_ref (s : ByteArray) (w : World) (hs : s.size ≤ 16777216) :
    Calls Tryz.prog 80 #[.string s] w fun e w' => e = .returned (.string (fold s)) ∧ Below w.heap.size w w' := by
  have HS := Lib.hid hs
  have hl : (chars s).length ≤ 16777216 := Nat.le_trans (chars_len s) hs
  clear hs
  go_enter Tryz.func80, Tryz.ntmps80
  go_wp2_with (go_at_call 129; refine (chars_ref s _ HS.out).mono ?_; rintro e w1 ⟨v, xs, rfl, hown, hx, hbw⟩; have HW := Lib.hid hown; have HX := Lib.hid hx; have HB := Lib.hid hbw; clear hown hx hbw)
  go_loopw [3, 4, 6] (fun u b i wr => ∃ (k : Nat) (out : ByteArray) (wt : Bool), i = .int .i64 k ∧ u = .string out ∧ b = .bool wt ∧ k ≤ (chars s).length ∧ foldOf s ((chars s).take k) = (out, wt) ∧ out.size ≤ 5 * k ∧ ∃ n, wr = w1.drewN n) (fun _ _ i _ => (chars s).length - (intOf i).toNat)
  case atStart => exact ⟨0, _, _, rfl, rfl, rfl, Nat.zero_le _, rfl, Nat.le_refl 0, 0, rfl⟩
  case round =>
    obtain ⟨k, out, wt, rfl, rfl, rfl, hk, hst, ho, nq, rfl⟩ := hrel
    have HT := Lib.hid hst
    clear hst
    by_cases hlt : k < (chars s).length
    · obtain ⟨g, cap, rfl, hg, hgl⟩ := World.ownsRow.form HW.out (by omega)
      obtain ⟨c, hc⟩ : ∃ c, (chars s)[k]? = some c := ⟨_, List.getElem?_eq_getElem hlt⟩
      obtain ⟨h0, h1, h2⟩ := HX.out.2 k c hc
      have hxl := HX.out.1
      have g0 := (World.ownsRow.cellAt HW.out (k * 4) (by omega)).trans h0
      have g1 := (World.ownsRow.cellAt HW.out (k * 4 + 1) (by omega)).trans h1
      have g3 := (World.ownsRow.cellAt HW.out (k * 4 + 3) (by omega)).trans (h2 hlt).2
      have hmem : c ∈ chars s := List.mem_of_getElem? hc
      have hw := chars_width s c hmem
      have hr := chars_rune s c hmem
      have hS := HS.out
      have HF := Lib.hid (foldOf_take (s := s) hc)
      have b1 : (0 : Int) ≤ c.1 := by omega
      have b2 : (c.1 : Int) ≤ 16777216 := by omega
      have b6 : (c.1 : Int) + 1 ≤ s.size := by omega
      have hrr : -2147483648 ≤ (c.2.1 : Int) ∧ (c.2.1 : Int) ≤ 2147483647 := by omega
      have HR := Lib.hid hrr
      clear h0 h1 h2 hxl hc hmem hS hrr
      have he := encode_size_le (sml c.2.1)
      have hx1 : (s.extract c.1 (c.1 + 1)).size ≤ 1 := by rw [ByteArray.size_extract]; omega
      have v1 := Lib.hid (show IntKind.i64.wrap ((c.1 : Int) + 1) = c.1 + 1 from IntWalk.i64_in _ (by omega))
      have v2 := Lib.hid (show ((c.1 : Int) + 1).toNat = c.1 + 1 by omega)
      have v3 : (0 : Int) ≤ c.1 + 1 := by omega
      have v4 : (c.1 : Int) ≤ c.1 + 1 := by omega
      by_cases hb : c.2.1 = 32
      · have hb1 : ((c.2.1 : Int) == 32) = true := by simp; omega
        have HC := Lib.hid hb
        clear hb
        go_wp2_with fail
        go_roundw
        case rel => exact ⟨k + 1, out, _, by go_num, rfl, rfl, by omega, by rw [HF.out, HT.out]; simp only [foldStep, HC.out, if_true], by omega, nq, rfl⟩
        case measure => simp [intOf]; omega
      · have hb1 : ((c.2.1 : Int) == 32) = false := by simp; omega
        have HC := Lib.hid hb
        clear hb
        cases wt <;> cases hbad : badB c
        all_goals (rw [hbad] at g3; have HD := Lib.hid hbad; clear hbad)
        all_goals
          go_wp2_with (first | (go_at_call 131; refine (small_ref _ _ HR.out).mono ?_; rintro e w' ⟨rfl, rfl⟩))
          try (have e1 := v1.out; have e2 := v2.out; go_quiet (fail); clear e1 e2; go_wp2_with fail)
          go_roundw
        all_goals first | (simp [intOf]; done) | (simp [intOf]; omega) | skip
        all_goals (refine ⟨k + 1, _, _, by go_num, rfl, rfl, by omega, by rw [HF.out, HT.out]; simp only [foldStep, HC.out, if_false, foldCh, HD.out, if_true, Bool.false_eq_true], by simp only [ByteArray.size_append, one32] <;> omega, ?_⟩)
        all_goals first | exact ⟨_, rfl⟩ | exact ⟨_, drewN_drewN _ _ _⟩
    · obtain rfl : k = (chars s).length := by omega
      have hst := HT.out
      rw [List.take_length] at hst
      have HF := Lib.hid (show fold s = out by unfold fold; rw [hst])
      clear hst
      rcases HW.out.2 with ⟨rfl, h0⟩ | ⟨g, cap, cur, rfl, _⟩
      · have hz : ((chars s).length : Int) ≤ 0 := by omega
        clear h0
        go_wp2_with fail
        go_ret
        exact ⟨ret_strF HF.out.symm, below_drewN HB.out _⟩
      · go_wp2_with fail
        go_ret
        exact ⟨ret_strF HF.out.symm, below_drewN HB.out _⟩
end
section
open Go.RowKit Go.Maps

def sgn (a b : Int) : Int := if a < b then -1 else if b < a then 1 else 0
/-- Two lists, one by one; what is a beginning of the other stands ahead. -/
def cmpL {α : Type} (f : α → α → Int) : List α → List α → Int
  | [], [] => 0
  | [], _ :: _ => -1
  | _ :: _, [] => 1
  | x :: l, y :: m => if f x y = 0 then cmpL f l m else f x y
theorem cmpL_end {α : Type} (f : α → α → Int) (l m : List α) (k : Nat) (h : ¬ (k < l.length ∧ k < m.length)) (hl : k ≤ l.length) (hm : k ≤ m.length) : cmpL f (l.drop k) (m.drop k) = sgn l.length m.length := by
  rcases Nat.lt_or_ge k l.length with h1 | h1
  · have h2 : ¬ k < m.length := fun h2 => h ⟨h1, h2⟩
    rw [List.drop_eq_getElem_cons h1, List.drop_of_length_le (by omega : m.length ≤ k)]
    simp only [cmpL, sgn]
    rw [if_neg (by omega), if_pos (by omega)]
  · rcases Nat.lt_or_ge k m.length with h2 | h2
    · rw [List.drop_of_length_le h1, List.drop_eq_getElem_cons h2]
      simp only [cmpL, sgn]
      rw [if_pos (by omega)]
    · rw [List.drop_of_length_le h1, List.drop_of_length_le h2]
      simp only [cmpL, sgn]
      rw [if_neg (by omega), if_neg (by omega)]
theorem cmpL_drop {α : Type} (f : α → α → Int) {l m : List α} {k : Nat} {x y : α} (hx : l[k]? = some x) (hy : m[k]? = some y) : cmpL f (l.drop k) (m.drop k) = if f x y = 0 then cmpL f (l.drop (k + 1)) (m.drop (k + 1)) else f x y := by
  obtain ⟨h1, e1⟩ := List.getElem?_eq_some_iff.1 hx
  obtain ⟨h2, e2⟩ := List.getElem?_eq_some_iff.1 hy
  rw [List.drop_eq_getElem_cons h1, List.drop_eq_getElem_cons h2, e1, e2]
  rfl
theorem ret_i {k : IntKind} {a b : Int} (h : a = b) : Ending.returned (.int k a) = Ending.returned (.int k b) := by rw [h]

def byteCmp (x y : UInt8) : Int := sgn x.toNat y.toNat
/-- Two texts by their bytes. -/
def bytesCmp (a b : ByteArray) : Int := cmpL byteCmp a.data.toList b.data.toList
theorem list_get (a : ByteArray) (k : Nat) (h : k < a.size) : a.data.toList[k]? = some a[k] := by
  have h' : k < a.data.size := h
  rw [List.getElem?_eq_getElem (by simpa using h')]
  rfl
theorem wrap_u8 (x : UInt8) : IntKind.i64.wrap (x.toNat : Int) = x.toNat := IntWalk.i64_in _ (by have := x.toNat_lt; omega)
theorem list_len (a : ByteArray) : a.data.toList.length = a.size := by simp
/-- A call that draws nothing, in a region behind another that has drawn. -/
theorem quiet_on {P : Program} {f : FuncId} {args : Array Value} {w : World} {a n : Nat} {v : Value}
    (h : Calls P f args (w.drewN (a + n)) fun e w' => e = .returned v ∧ w' = w.drewN (a + n)) :
    Calls P f args (w.drewN (a + n)) fun e w'' => e = .returned v ∧ ∃ m, w'' = w.drewN (a + m) :=
  h.mono fun _ _ ⟨he, hm⟩ => ⟨he, n, hm⟩
theorem sgn_ne {a b : Int} (h : a ≠ b) : sgn a b ≠ 0 := by unfold sgn; split <;> (try split) <;> omega
theorem sgn_self (a : Int) : sgn a a = 0 := by unfold sgn; rw [if_neg (by omega), if_neg (by omega)]

/-- An element of a text: a sign (0), a number (1), a letter (2); of a number its digits. -/
structure El where
  cls : Int
  code : Int
  digs : ByteArray
def elV (x : El) : Value := .agg #[.int .i64 x.cls, .int .i32 x.code, .string x.digs]
/-- How two elements compare. -/
def elCmp (x y : El) : Int :=
  if x.cls ≠ y.cls then sgn x.cls y.cls else if x.cls ≠ 1 then sgn x.code y.code else if x.digs.size ≠ y.digs.size then sgn x.digs.size y.digs.size else bytesCmp x.digs y.digs
theorem wrap_i32 (x : Int) (h : -2147483648 ≤ x ∧ x ≤ 2147483647) : wrap64 x = x := by unfold wrap64; omega

/-- A value is a list of a text's characters, wherever it lies. -/
def CharsAt (s : ByteArray) (v : Value) (w : World) : Prop :=
  ∃ (B : Nat) (xs : List Value), w.ownsRow B 252 4 v (chars s).length xs ∧ Holds4 xs (chars s) (chars s).length
def codeCmp (small : Bool) (x y : Ch) : Int := if small then sgn (sml x.2.1) (sml y.2.1) else sgn x.2.1 y.2.1
theorem sml_range (r : Int) (h : -2147483648 ≤ r ∧ r ≤ 2147483647) : -2147483648 ≤ sml r ∧ sml r ≤ 2147483647 := by
  unfold sml
  split
  · rename_i h1
    have : r ≤ 1071 := by
      simp [inB] at h1
      omega
    omega
  · split
    · rename_i h1
      simp [inB] at h1
      omega
    · exact h
end
section
open Go.RowKit Go.Maps

theorem enc_len_le (r : Int) : (Lib.encodeRune r).length ≤ 4 := by
  have := Lib.runeCells_le r
  rw [Lib.runeCells_length] at this
  exact this.2
/-- The library's bytes of a code point are the model's. -/
theorem byte_of {a : Int} {n : Nat} (h : a = n) : a.toNat.toUInt8 = UInt8.ofNat n := by subst h; rfl
theorem enc_rune (r : Int) : (⟨(Lib.encodeRune r).toArray⟩ : ByteArray) = Utf8.encode r := by
  by_cases hbad : r < 0 ∨ (55296 ≤ r ∧ r ≤ 57343) ∨ 1114111 < r
  · have hv : Utf8.valid r = false := by
      simp only [Utf8.valid, Bool.or_eq_false_iff, Bool.and_eq_false_iff, decide_eq_false_iff_not]
      omega
    unfold Lib.encodeRune Utf8.encode
    rw [Lib.encodeRuneZ_bad hbad]
    simp only [hv, Bool.false_eq_true, if_false]
    rfl
  · have hv : Utf8.valid r = true := by
      simp only [Utf8.valid, Bool.or_eq_true, Bool.and_eq_true, decide_eq_true_eq]
      omega
    obtain ⟨n, rfl⟩ : ∃ n : Nat, r = n := ⟨r.toNat, by omega⟩
    unfold Lib.encodeRune Utf8.encode
    simp only [hv, if_true, Int.toNat_natCast]
    by_cases h1 : n < 128
    · rw [Lib.encodeRuneZ_one (by omega) (by omega), if_pos (by omega)]
      rfl
    · by_cases h2 : n < 2048
      · rw [Lib.encodeRuneZ_two (by omega) (by omega), if_neg (by omega), if_pos (by omega)]
        simp only [List.map_cons, List.map_nil]
        rw [byte_of (n := 0xC0 + n / 64) (by omega), byte_of (n := 0x80 + n % 64) (by omega)]
      · by_cases h3 : n < 65536
        · rw [Lib.encodeRuneZ_three (by omega), if_neg (by omega), if_neg (by omega), if_pos (by omega)]
          simp only [List.map_cons, List.map_nil]
          rw [byte_of (n := 0xE0 + n / 4096) (by omega), byte_of (n := 0x80 + n / 64 % 64) (by omega), byte_of (n := 0x80 + n % 64) (by omega)]
        · rw [Lib.encodeRuneZ_four (by omega) (by omega), if_neg (by omega), if_neg (by omega), if_neg (by omega)]
          simp only [List.map_cons, List.map_nil]
          rw [byte_of (n := 0xF0 + n / 262144) (by omega), byte_of (n := 0x80 + n / 4096 % 64) (by omega), byte_of (n := 0x80 + n / 64 % 64) (by omega), byte_of (n := 0x80 + n % 64) (by omega)]
theorem foldCh_list (s : ByteArray) (c : Ch) (h : c.1 < s.size) : (foldCh s c).data.toList = if badB c then [s[c.1]] else Lib.encodeRune (sml c.2.1) := by
  unfold foldCh
  split
  · rw [Lib.extract_data]
    have h' : c.1 < s.data.toList.length := by rw [← Lib.size_eq]; exact h
    rw [List.drop_eq_getElem_cons h']
    simp
    rfl
  · rw [← enc_rune]

theorem bis_below {B b : Nat} {bs : List Value} {w w' : World} (h : BIs B b bs w) (hb : Below w.heap.size w w') : BIs B b bs w' := by
  have hg : w.grownBy w' none := ⟨hb.os, hb.tape, hb.output, hb.size, fun k hk _ => hb.block k hk⟩
  have go : ∀ p, Lib.BuilderAtF 169 5 B b p bs w → Lib.BuilderAtF 169 5 B b p bs w' := by
    rintro p ⟨h1, v, hk, ho, hne⟩
    exact ⟨h1, v, (hb.block b (Array.getElem?_eq_some_iff.1 hk).1).trans hk, ho.kept hg (by cases hv : v.ownBlock <;> simp), hne⟩
  exact h.imp (go _) (go _)
/-- The cells of the bytes of a text. -/
def bcs (t : ByteArray) : List Value := Lib.byteCells t.data.toList
theorem bcs_len (t : ByteArray) : (bcs t).length = t.size := by unfold bcs; rw [Lib.byteCells_length, ← Lib.size_eq]
theorem bcs_app (a b : ByteArray) : bcs (a ++ b) = bcs a ++ bcs b := by unfold bcs; rw [ByteArray.data_append, Array.toList_append, Lib.byteCells_append]
theorem bcs_enc (r : Int) : bcs (Utf8.encode r) = Lib.runeCells r := by rw [← enc_rune]; unfold bcs; rw [← Lib.byteCells_encodeRune]
theorem bcs_one (s : ByteArray) (k : Nat) (h : k < s.size) : bcs (s.extract k (k + 1)) = [.int .u8 s[k].toNat] := by
  have h1 : (s.extract k (k + 1)).data.toList = [s[k]] := by
    rw [Lib.extract_data]
    have h' : k < s.data.toList.length := by rw [← Lib.size_eq]; exact h
    rw [List.drop_eq_getElem_cons h']
    simp
    rfl
  unfold bcs
  rw [h1]; rfl
theorem bcs_blank : bcs ⟨#[32]⟩ = [.int .u8 32] := rfl
theorem enc_size (r : Int) : (Utf8.encode r).size ≤ 4 := encode_size_le r

theorem ext_one (s : ByteArray) (k : Nat) : (s.extract k (k + 1)).size ≤ 1 := by rw [ByteArray.size_extract]; omega
theorem emptyB (t : ByteArray) : (!t.toList.isEmpty) = decide (0 < t.size) := by
  by_cases h : 0 < t.size
  · rw [notEmpty h]; simp [h]
  · have h0 : t.toList = [] := by rw [ByteArray.toList_eq]; exact List.eq_nil_of_length_eq_zero (by rw [← Lib.size_eq]; omega)
    rw [h0]; simp [h]
/-- What the loop of Fold holds between two rounds. -/
def FoldI (s : ByteArray) (w : World) (pos fuel : Nat) (out : ByteArray) (wt : Bool) (wr : World) : Prop :=
  ∃ done : List Ch, BIs w.heap.size w.heap.size (bcs out) wr ∧ wr.heap[w.heap.size + 1]? = some (.stringIter s pos) ∧ Below w.heap.size w wr ∧ foldOf s done = (out, wt) ∧ done ++ chs s fuel pos = chars s ∧ s.size ≤ pos + fuel ∧ out.size ≤ 5 * pos ∧ pos ≤ s.size
theorem foldOf_snoc (s : ByteArray) (l : List Ch) (c : Ch) : foldOf s (l ++ [c]) = foldStep s (foldOf s l) c := by unfold foldOf; rw [List.foldl_append]; rfl

set_option maxRecDepth 100000 in
set_option maxHeartbeats 4000000 in
theorem fold_pro (s : ByteArray) (w : World) (hs : s.size ≤ 16777216) (hT : Tabs w) : Calls Tryz.prog 258 #[.string s] w (Says (.string (fold s)) w) := by
  have HS := Lib.hid hs
  have HTW := Lib.hid hT
  clear hs hT
  go_enter Tryz.func258, Tryz.ntmps258
  go_wp2_with fail
  go_loopw [4] (fun bl wr => ∃ (pos fuel : Nat) (out : ByteArray) (wt : Bool), bl = .bool wt ∧ FoldI s w pos fuel out wt wr) (fun _ wr => s.size - wr.iterPos (w.heap.size + 1))
  case atStart =>
    refine ⟨0, s.size, ByteArray.empty, false, rfl, [], (Lib.IsBuilderF.of (Lib.fresh_isBuilder 169 5 w)).alloc _, ?_, ((Below.refl _ w).alloc (Nat.le_refl _) _).alloc (by simp) _, rfl, rfl, by omega, by simp, by omega⟩
    have := World.iter_heap (w.alloc (.cells #[.pointer none, .slice none 0 0] 169)) s 0
    simpa using this
  case round =>
    obtain ⟨pos, fuel, out, wt, rfl, done, hI, hit, hbw, hfo, hacc, hfu, hos, hps⟩ := hrel
    have HI := Lib.hid hit
    have HF := Lib.hid hfo
    have HO := Lib.hid hos
    clear hfo hos
    by_cases hp : pos < s.size
    · have hnx : ∀ ty, (Instr.next (.pointer (some ⟨w.heap.size + 1, 0, none⟩)) true ty).run Tryz.prog wr = _ := fun ty => Lib.run_next_any_at wr (w.heap.size + 1) s pos ty hit hp
      have hwd := width_pos s pos hp
      have hfit := decode_fits s pos hp
      have hrn := decode_le s pos
      have hI2 := hI.iterAt hit (pos + (Utf8.decode s pos).2)
      have hit2 := Lib.iterAt_heap wr (w.heap.size + 1) s pos (pos + (Utf8.decode s pos).2) hit
      have hbw2 := Lib.below_iterAt hbw (k := w.heap.size + 1) (by omega) s (pos + (Utf8.decode s pos).2)
      obtain ⟨f, rfl⟩ : ∃ f, fuel = f + 1 := ⟨fuel - 1, by omega⟩
      have HA := Lib.hid (chs_join (chs_split hp hacc))
      have HB := Lib.hid hI2
      have HI2 := Lib.hid hit2
      have HW2 := Lib.hid hbw2
      have HT := Lib.hid (HTW.out.below hbw2 (Nat.le_refl _))
      have HP := Lib.hid hp
      have HC := Lib.hid (foldOf_snoc s done (pos, (Utf8.decode s pos).1, (Utf8.decode s pos).2))
      have HBC := Lib.hid (fun (W : World) (t : Tabs W) => bad_pro s pos W hp HS.out t)
      have HFC := Lib.hid (show foldCh s (pos, (Utf8.decode s pos).1, (Utf8.decode s pos).2) = if badB (pos, (Utf8.decode s pos).1, (Utf8.decode s pos).2) then s.extract pos (pos + 1) else Utf8.encode (sml (Utf8.decode s pos).1) from rfl)
      clear hI hI2 hit hit2 hbw hbw2 hacc hp
      obtain ⟨c, hcd⟩ : ∃ c : Nat × Nat, Utf8.decode s pos = c := ⟨_, rfl⟩
      rw [hcd] at hnx hwd hfit hrn HA HB HI2 HW2 HT HC HBC HFC
      clear hcd
      by_cases h32 : c.1 = 32
      · have hb1 : ((c.1 : Int) == 32) = true := by simp; omega
        have HN := Lib.hid (show foldOf s (done ++ [(pos, c.1, c.2)]) = (out, !out.toList.isEmpty) by rw [HC.out, HF.out]; simp [foldStep, h32])
        clear h32
        go_wp2_with fail
        refine (Tryz.Builder_Len_f _ _ _ _ HB.out).mono ?_
        rintro e w1 ⟨rfl, rfl⟩
        rw [bcs_len]
        have HE := Lib.hid (show (!out.toList.isEmpty) = decide (0 < out.size) from emptyB out)
        go_wp2_with fail
        go_roundw
        case rel => exact ⟨_, f, out, _, rfl, _, HB.out, HI2.out, HW2.out, by rw [HN.out, HE.out], HA.out, by omega, by have := HO.out; omega, hfit⟩
        case measure => simp only [World.iterPos, HI2.out, HI.out]; have := HP.out; omega
      · have hb1 : ((c.1 : Int) == 32) = false := by simp; omega
        have HFL := Lib.hid h32
        have HRR := Lib.hid (show -2147483648 ≤ (c.1 : Int) ∧ (c.1 : Int) ≤ 2147483647 by omega)
        clear h32
        cases wt <;> cases hbad : badB (pos, c.1, c.2)
        · have HN := Lib.hid (show foldOf s (done ++ [(pos, c.1, c.2)]) = (out ++ Utf8.encode (sml c.1), false) by rw [HC.out, HF.out]; simp only [foldStep]; rw [if_neg HFL.out, HFC.out, hbad]; rfl)
          have HD := Lib.hid hbad
          clear hbad
          go_wp2_with fail
          refine (HBC.out _ HT.out).mono ?_
          rw [HD.out]
          rintro e w2 ⟨rfl, h2⟩
          have B2 := Lib.hid (bis_below HB.out h2)
          have I2 := Lib.hid ((h2.block _ (Array.getElem?_eq_some_iff.1 HI2.out).1).trans HI2.out)
          have Z2 := Lib.hid (HW2.out.trans (h2.mono HW2.out.size))
          clear h2
          go_wp2_with fail
          refine (small_q _ _ HRR.out).mono ?_
          rintro e w3 ⟨rfl, rfl⟩
          go_wp2_with fail
          refine (rune_pro w.heap.size w.heap.size _ _ (sml_range _ HRR.out) _ B2.out (by rw [bcs_len]; have := HO.out; have := HS.out; omega) Z2.out.size).mono ?_
          rintro e w3 ⟨rfl, b3, z3, k3⟩
          have B3 := Lib.hid (show BIs w.heap.size w.heap.size (bcs (out ++ Utf8.encode (sml c.1))) w3 by rw [bcs_app _ (Utf8.encode (sml c.1)), bcs_enc]; exact .inr b3)
          have I3 := Lib.hid (k3.iter I2.out (by omega))
          have Z3 := Lib.hid (Z2.out.trans z3)
          clear b3 z3 k3
          go_wp2_with fail
          go_roundw
          case rel => exact ⟨_, f, _, false, rfl, _, B3.out, I3.out, Z3.out, HN.out, HA.out, by omega, by rw [ByteArray.size_append]; have := enc_size (sml c.1); have := HO.out; omega, hfit⟩
          case measure => simp only [World.iterPos, I3.out, HI.out]; have := HP.out; omega
        · have HN := Lib.hid (show foldOf s (done ++ [(pos, c.1, c.2)]) = (out ++ s.extract pos (pos + 1), false) by rw [HC.out, HF.out]; simp only [foldStep]; rw [if_neg HFL.out, HFC.out, hbad]; rfl)
          have HD := Lib.hid hbad
          clear hbad
          go_wp2_with fail
          refine (HBC.out _ HT.out).mono ?_
          rw [HD.out]
          rintro e w2 ⟨rfl, h2⟩
          have B2 := Lib.hid (bis_below HB.out h2)
          have I2 := Lib.hid ((h2.block _ (Array.getElem?_eq_some_iff.1 HI2.out).1).trans HI2.out)
          have Z2 := Lib.hid (HW2.out.trans (h2.mono HW2.out.size))
          clear h2
          have hpp := HP.out
          have hpi : (pos : Int) < s.size := by omega
          go_wp2_with fail
          refine (byte_pro w.heap.size w.heap.size _ _ _ B2.out (by rw [bcs_len]; have := HO.out; have := HS.out; omega) Z2.out.size).mono ?_
          rintro e w3 ⟨rfl, b3, z3, k3⟩
          have B3 := Lib.hid (show BIs w.heap.size w.heap.size (bcs (out ++ s.extract pos (pos + 1))) w3 by rw [bcs_app _ (s.extract pos (pos + 1)), bcs_one s pos HP.out]; exact .inr b3)
          have I3 := Lib.hid (k3.iter I2.out (by omega))
          have Z3 := Lib.hid (Z2.out.trans z3)
          clear b3 z3 k3
          go_wp2_with fail
          go_roundw
          case rel => exact ⟨_, f, _, false, rfl, _, B3.out, I3.out, Z3.out, HN.out, HA.out, by omega, by rw [ByteArray.size_append]; have := ext_one s pos; have := HO.out; omega, hfit⟩
          case measure => simp only [World.iterPos, I3.out, HI.out]; have := HP.out; omega
        · have HN := Lib.hid (show foldOf s (done ++ [(pos, c.1, c.2)]) = (out ++ ⟨#[32]⟩ ++ Utf8.encode (sml c.1), false) by rw [HC.out, HF.out]; simp only [foldStep]; rw [if_neg HFL.out, HFC.out, hbad]; rfl)
          have HD := Lib.hid hbad
          clear hbad
          go_wp2_with fail
          refine (byte_pro w.heap.size w.heap.size _ 32 _ HB.out (by rw [bcs_len]; have := HO.out; have := HS.out; omega) HW2.out.size).mono ?_
          rintro e w1 ⟨rfl, b1, z1, k1⟩
          have B1 := Lib.hid (show BIs w.heap.size w.heap.size (bcs (out ++ ⟨#[32]⟩)) w1 by rw [bcs_app, bcs_blank]; exact .inr b1)
          have I1 := Lib.hid (k1.iter HI2.out (by omega))
          have Z1 := Lib.hid (HW2.out.trans z1)
          have T1 := Lib.hid (HTW.out.below (HW2.out.trans z1) (Nat.le_refl _))
          clear b1 z1 k1
          go_wp2_with fail
          refine (HBC.out w1 T1.out).mono ?_
          rw [HD.out]
          rintro e w2 ⟨rfl, h2⟩
          have B2 := Lib.hid (bis_below B1.out h2)
          have I2 := Lib.hid ((h2.block _ (Array.getElem?_eq_some_iff.1 I1.out).1).trans I1.out)
          have Z2 := Lib.hid (Z1.out.trans (h2.mono Z1.out.size))
          clear h2
          go_wp2_with fail
          refine (small_q _ _ HRR.out).mono ?_
          rintro e w3 ⟨rfl, rfl⟩
          go_wp2_with fail
          refine (rune_pro w.heap.size w.heap.size _ _ (sml_range _ HRR.out) _ B2.out (by rw [bcs_len, ByteArray.size_append, one32]; have := HO.out; have := HS.out; omega) Z2.out.size).mono ?_
          rintro e w3 ⟨rfl, b3, z3, k3⟩
          have B3 := Lib.hid (show BIs w.heap.size w.heap.size (bcs (out ++ ⟨#[32]⟩ ++ Utf8.encode (sml c.1))) w3 by rw [bcs_app _ (Utf8.encode (sml c.1)), bcs_enc]; exact .inr b3)
          have I3 := Lib.hid (k3.iter I2.out (by omega))
          have Z3 := Lib.hid (Z2.out.trans z3)
          clear b3 z3 k3
          go_wp2_with fail
          go_roundw
          case rel => exact ⟨_, f, _, false, rfl, _, B3.out, I3.out, Z3.out, HN.out, HA.out, by omega, by rw [ByteArray.size_append, ByteArray.size_append, one32]; have := enc_size (sml c.1); have := HO.out; omega, hfit⟩
          case measure => simp only [World.iterPos, I3.out, HI.out]; have := HP.out; omega
        · have HN := Lib.hid (show foldOf s (done ++ [(pos, c.1, c.2)]) = (out ++ ⟨#[32]⟩ ++ s.extract pos (pos + 1), false) by rw [HC.out, HF.out]; simp only [foldStep]; rw [if_neg HFL.out, HFC.out, hbad]; rfl)
          have HD := Lib.hid hbad
          clear hbad
          go_wp2_with fail
          refine (byte_pro w.heap.size w.heap.size _ 32 _ HB.out (by rw [bcs_len]; have := HO.out; have := HS.out; omega) HW2.out.size).mono ?_
          rintro e w1 ⟨rfl, b1, z1, k1⟩
          have B1 := Lib.hid (show BIs w.heap.size w.heap.size (bcs (out ++ ⟨#[32]⟩)) w1 by rw [bcs_app, bcs_blank]; exact .inr b1)
          have I1 := Lib.hid (k1.iter HI2.out (by omega))
          have Z1 := Lib.hid (HW2.out.trans z1)
          have T1 := Lib.hid (HTW.out.below (HW2.out.trans z1) (Nat.le_refl _))
          clear b1 z1 k1
          go_wp2_with fail
          refine (HBC.out w1 T1.out).mono ?_
          rw [HD.out]
          rintro e w2 ⟨rfl, h2⟩
          have B2 := Lib.hid (bis_below B1.out h2)
          have I2 := Lib.hid ((h2.block _ (Array.getElem?_eq_some_iff.1 I1.out).1).trans I1.out)
          have Z2 := Lib.hid (Z1.out.trans (h2.mono Z1.out.size))
          clear h2
          have hpp := HP.out
          have hpi : (pos : Int) < s.size := by omega
          go_wp2_with fail
          refine (byte_pro w.heap.size w.heap.size _ _ _ B2.out (by rw [bcs_len, ByteArray.size_append, one32]; have := HO.out; have := HS.out; omega) Z2.out.size).mono ?_
          rintro e w3 ⟨rfl, b3, z3, k3⟩
          have B3 := Lib.hid (show BIs w.heap.size w.heap.size (bcs (out ++ ⟨#[32]⟩ ++ s.extract pos (pos + 1))) w3 by rw [bcs_app _ (s.extract pos (pos + 1)), bcs_one s pos HP.out]; exact .inr b3)
          have I3 := Lib.hid (k3.iter I2.out (by omega))
          have Z3 := Lib.hid (Z2.out.trans z3)
          clear b3 z3 k3
          go_wp2_with fail
          go_roundw
          case rel => exact ⟨_, f, _, false, rfl, _, B3.out, I3.out, Z3.out, HN.out, HA.out, by omega, by rw [ByteArray.size_append, ByteArray.size_append, one32]; have := ext_one s pos; have := HO.out; omega, hfit⟩
          case measure => simp only [World.iterPos, I3.out, HI.out]; have := HP.out; omega
    · have hnx : ∀ ty, (Instr.next (.pointer (some ⟨w.heap.size + 1, 0, none⟩)) true ty).run Tryz.prog wr = _ := fun ty => Lib.run_next_end_at wr (w.heap.size + 1) s pos ty hit hp
      rw [chs_end s fuel _ hp, List.append_nil] at hacc
      have HN := Lib.hid (show fold s = out by unfold fold; rw [← hacc, HF.out])
      have HB := Lib.hid hI
      have HW2 := Lib.hid hbw
      clear hacc hit hI hbw
      go_wp2_with fail
      refine (Tryz.Builder_String_any_k w.heap.size w.heap.size out.data.toList _ HB.out HW2.out.size).mono ?_
      rintro e w1 ⟨rfl, _, z1, _⟩
      have Z1 := Lib.hid (HW2.out.trans z1)
      clear z1
      go_wp2_with fail
      go_ret
      rw [HN.out]
      exact ⟨rfl, Z1.out⟩
end
end Go.Proofs.YtdagombmgcnofaaGreatDoor
