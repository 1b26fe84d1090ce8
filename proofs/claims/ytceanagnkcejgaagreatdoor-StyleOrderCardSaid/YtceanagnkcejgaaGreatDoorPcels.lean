/- The program's iterator over a text's cells (layer 2): what it hands the body of a loop, and in which order. -/
import Derived.Test.YtceanagnkcejgaaGreatDoorPsmls
import Derived.Test.YtceanagnkcejgaaGreatDoorWordss
import Derived.RangeFuncNested
import Derived.RangeFuncBound
import Derived.RangeFuncCalls
import Derived.RangeFuncLeaves
import Derived.RangeFuncBox
import Derived.Shelf.Abstract
import Derived.Shelf.RegionOpen
import Derived.OwnWalkIn
import Derived.TacticsInMore
import Derived.LoopNIn
import Derived.LoopIn
namespace Go.Proofs.YtceanagnkcejgaaGreatDoor
open Go.RowKit Go.Shelf

attribute [local go_sem] Oper.semAt_some

/-- A cell of the text s, with what a loop over cells needs of it. -/
abbrev SCel (s : ByteArray) := { y : Cel // (y.2.2 = 1 ∨ y.2.2 = 2) ∧ y.1 ≤ y.2.1 ∧ y.2.1 ≤ s.size }
def celA (s : ByteArray) (y : Cel) : Value := .agg #[.string (s.extract y.1 y.2.1), .int .i64 y.1, .int .i64 y.2.2]
/-- What a round of a loop over cells keeps: the walks that are under way, and the variable that holds the text. -/
def KpS (B : Nat) (W W' : World) : Prop := KeepsWalks W W' ∧ ∀ v, W.cell? ⟨B, 0, none⟩ = some v → W'.cell? ⟨B, 0, none⟩ = some v
theorem KpS.t {B : Nat} {X Y Z : World} (h : KpS B X Y) (k : KpS B Y Z) : KpS B X Z := ⟨h.1.trans k.1, fun v e => k.2 v (h.2 v e)⟩
theorem KpS.put {B : Nat} (W : World) (l : Nat) (o o' : Obj) (h : W.heap[l]? = some o) (hc : o.isCells = false) (hw : o.isWalk = false) : KpS B W (W.putObj l o') := by
  refine ⟨KeepsWalks.putObj _ h hw, fun v e => ?_⟩
  have hne : B ≠ l := by
    rintro rfl
    unfold World.cell? at e
    rw [h] at e
    cases o <;> simp_all [Obj.isCells]
  unfold World.cell? at e ⊢
  simp only [] at e ⊢
  rw [World.putObj_heap_other hne]
  exact e
/-- Cells that have been told, and the one that waits. -/
def Waits (acc : List Ch) (pos : Nat) (pre : List Cel) (a w : Value) : Prop :=
  (acc = [] ∧ pos = 0 ∧ pre = [] ∧ a = .int .i64 0 ∧ w = .int .i64 0) ∨ (0 < pos ∧ ∃ (b : Nat) (m : Int), celsOf acc = pre ++ [(b, pos, m)] ∧ a = .int .i64 b ∧ w = .int .i64 m)

theorem cel_keep : ∀ (l : List Ch) (out : List Cel) (z : Cel), out <+: l.foldl celStep (out ++ [z])
  | [], out, z => ⟨[z], rfl⟩
  | c :: l, out, z => by
    rw [List.foldl_cons]
    by_cases hz : wid c.2.1 = 0
    · rw [celStep_more _ _ _ hz]; exact cel_keep l out _
    · rw [celStep_new _ _ hz]; exact List.IsPrefix.trans ⟨[z], rfl⟩ (cel_keep l (out ++ [z]) _)
/-- What has come before a character of some width stays. -/
theorem cel_told (l : List Ch) (c : Ch) (r : List Ch) (h : ¬ wid c.2.1 = 0) : celsOf l <+: celsOf (l ++ c :: r) := by
  unfold celsOf
  rw [List.foldl_append, List.foldl_cons, celStep_new _ _ h]
  exact cel_keep r _ _
/-- What waits is a cell of the text. -/
theorem waits_ok {s : ByteArray} {acc rest : List Ch} {pre : List Cel} {y : Cel} (h : acc ++ rest = chars s) (e : celsOf acc = pre ++ [y]) : (y.2.2 = 1 ∨ y.2.2 = 2) ∧ y.1 ≤ y.2.1 ∧ y.2.1 ≤ s.size := by
  have ht : (chars s).take acc.length = acc := by rw [← h]; simp
  have hl : acc.length ≤ (chars s).length := by rw [← h]; simp
  refine ⟨cel_wide acc y (by rw [e]; simp), ?_⟩
  have := celsOf_last s acc.length hl pre y (by rw [ht]; exact e)
  exact this.2
theorem iter_cell {wr : World} {k B : Nat} {s : ByteArray} {pos pos' : Nat} {v : Value} (hit : wr.heap[k]? = some (.stringIter s pos)) (h : wr.cell? ⟨B, 0, none⟩ = some v) : (wr.iterAt k s pos').cell? ⟨B, 0, none⟩ = some v ∧ B ≠ k := by
  have hne : B ≠ k := by
    rintro rfl
    unfold World.cell? at h
    rw [hit] at h
    simp at h
  refine ⟨?_, hne⟩
  have e : (wr.iterAt k s pos').heap[B]? = wr.heap[B]? := Array.getElem?_setIfInBounds_ne (Ne.symm hne)
  unfold World.cell? at h ⊢
  simp only [] at h ⊢
  rw [e]
  exact h
theorem notEmpty {s : ByteArray} (h : 0 < s.size) : s.toList.isEmpty = false := by
  have e : s.toList = s.data.toList := ByteArray.toList_eq s
  rw [e]
  cases hd : s.data.toList with
  | nil => exact absurd (show s.size = 0 by have : s.data.size = 0 := by rw [← Array.length_toList, hd]; rfl
                                            exact this) (by omega)
  | cons _ _ => rfl
theorem cell_lt {w : World} {b o : Nat} {v : Value} (h : w.cell? ⟨b, o, none⟩ = some v) : b < w.heap.size := by
  unfold World.cell? at h
  simp only [] at h
  split at h
  · rename_i e; exact (Array.getElem?_eq_some_iff.1 e).1
  · cases h
theorem cell_more {w : World} {b o : Nat} {v : Value} (h : w.cell? ⟨b, o, none⟩ = some v) (x : Obj) : (w.alloc x).cell? ⟨b, o, none⟩ = some v :=
  (((Below.refl _ w).alloc (Nat.le_refl _) x).cell (p := ⟨b, o, none⟩) (cell_lt h)).trans h
theorem iter_grown (w : World) (k : Nat) (s : ByteArray) (pos : Nat) : w.grownBy (w.iterAt k s pos) (some k) := grownBy_putObj' w k (.stringIter s pos)

set_option maxRecDepth 100000 in
set_option maxHeartbeats 4000000 in
theorem cells1_in (n l B : Nat) (s : ByteArray) (hs : s.size ≤ 16777216) (J Jx : List (SCel s) → World → Prop)
    (hY : ∀ pre x W, J pre W → pre.length < (cells s).length → YieldAt Fence.wide (n - 1) Tryz.prog l #[celA s x.1] W fun e W' =>
      (e = .returned (.bool true) ∧ J (pre ++ [x]) W' ∧ KpS B W W') ∨ (e = .returned (.bool false) ∧ Jx (pre ++ [x]) W'))
    (W : World) (hJ : AbidesFrom W.heap.size J) (hB : W.cell? ⟨B, 0, none⟩ = some (.string s)) (h0 : J [] W) (hn : 2 ≤ n) :
    CallsIn Fence.wide n Tryz.prog 81 #[.func (.yield l) #[] #[], .pointer (some ⟨B, 0, none⟩)] W fun e W' => (∃ v, e = .returned v) ∧
      ((∃ ys : List (SCel s), ys.map (·.1) = cells s ∧ J ys W') ∨ (∃ pre : List (SCel s), pre.map (·.1) <+: cells s ∧ Jx pre W')) := by
  have hfw : Fence.wide.fn 82 := trivial
  have h1n : 1 ≤ n := by omega
  refine callsIn_of_wp Tryz.func81 rfl trivial ?_ rfl
  simp only [Tryz.ntmps81, List.size_toArray, List.length_cons, List.length_nil, Nat.reduceAdd, Nat.reduceSub, Array.replicate_succ, Array.replicate_zero, List.push_toArray, List.append_toArray, List.nil_append, List.cons_append]
  gi_wp2
  gi_loopw [3, 4] (fun a m wr => ∃ (pos fuel : Nat) (acc : List Ch) (pre : List (SCel s)), Waits acc pos (pre.map (·.1)) a m ∧ J pre wr ∧ wr.heap[W.heap.size]? = some (.stringIter s pos) ∧ wr.cell? ⟨B, 0, none⟩ = some (.string s) ∧ acc ++ chs s fuel pos = chars s ∧ s.size ≤ pos + fuel ∧ pos ≤ s.size) (fun _ _ wr => s.size - wr.iterPos W.heap.size)
  case atStart =>
    refine ⟨0, s.size, [], [], .inl ⟨rfl, rfl, rfl, rfl, rfl⟩, ?_, ?_, ?_, rfl, by omega, by omega⟩
    · exact hJ _ _ _ none h0 (World.grownBy_alloc W _ none) (fun r e => by cases e)
    · have := World.iter_heap W s 0
      simpa using this
    · exact cell_more hB _
  case round =>
    obtain ⟨pos, fuel, acc, pre, hwt, hj, hit, hc, hacc, hfu, hps⟩ := hrel
    by_cases hp : pos < s.size
    · have hnx : ∀ ty, (Instr.next (.pointer (some ⟨W.heap.size, 0, none⟩)) true ty).run Tryz.prog wr = _ := fun ty => Lib.run_next_any_at wr W.heap.size s pos ty hit hp
      have hwd := width_pos s pos hp
      have hfit := decode_fits s pos hp
      have hit2 := Lib.iterAt_heap wr W.heap.size s pos (pos + (Utf8.decode s pos).2) hit
      have hc2 := (iter_cell (pos' := pos + (Utf8.decode s pos).2) hit hc).1
      have hj2 := hJ _ _ _ (some W.heap.size) hj (iter_grown wr W.heap.size s (pos + (Utf8.decode s pos).2)) (fun r e => by cases e; exact ⟨Nat.le_refl _, _, hit, rfl⟩)
      obtain ⟨f, rfl⟩ : ∃ f, fuel = f + 1 := ⟨fuel - 1, by omega⟩
      have hacc2 : (acc ++ [(pos, (Utf8.decode s pos).1, (Utf8.decode s pos).2)]) ++ chs s f (pos + (Utf8.decode s pos).2) = chars s := by
        rw [← hacc]; simp [chs, hp]
      have hacc3 : acc ++ (pos, (Utf8.decode s pos).1, (Utf8.decode s pos).2) :: chs s f (pos + (Utf8.decode s pos).2) = chars s := by
        rw [← hacc]; simp [chs, hp]
      have HA2 := Lib.hid hacc2
      have HA3 := Lib.hid hacc3
      have HI2 := Lib.hid hit2
      have HI := Lib.hid hit
      have HJ2 := Lib.hid hj2
      clear hacc hacc2 hacc3 hit hit2 hj hj2 hc
      obtain ⟨c, hcd⟩ : ∃ c : Nat × Nat, Utf8.decode s pos = c := ⟨_, rfl⟩
      rw [hcd] at hnx hwd hfit hc2 HA2 HA3 HI2 HJ2
      clear hcd
      have hmx : max (wid c.1) 1 = if wid c.1 = 0 then 1 else wid c.1 := by have := wid_012 c.1; split <;> omega
      rcases hwt with ⟨rfl, hp0, hpre, rfl, rfl⟩ | ⟨h0p, b, m, hce, rfl, rfl⟩
      · have hi0 : ¬ (0 : Int) < (pos : Int) := by omega
        have HP := Lib.hid hp0
        have HR := Lib.hid hpre
        clear hp0 hpre
        by_cases hz : wid c.1 = 0
        · have t1 : (wid (c.1 : Int) == 0) = true := by simpa using hz
          have HZ := Lib.hid hz
          gi_wp2_with (gi_at_call 82; refine (callsIn_wide.2 (width_q _ _)).mono ?_; rintro e w' ⟨rfl, rfl⟩)
          refine ⟨(fun f h => by cases h), ?_⟩
          gi_wp2
          go_roundw
          case rel => exact ⟨pos + c.2, f, [(pos, c.1, c.2)], pre, .inr ⟨by omega, pos, 1, by rw [HR.out]; simp [celsOf, celStep_nil, celNew, HZ.out], rfl, rfl⟩, HJ2.out, HI2.out, hc2, HA2.out, by omega, hfit⟩
          case measure => simp only [World.iterPos, HI2.out, HI.out]; omega
        · have t1 : (wid (c.1 : Int) == 0) = false := by simpa using hz
          have hw1 : 1 ≤ wid c.1 := by have := wid_012 c.1; omega
          have HZ := Lib.hid hz
          clear hz
          gi_wp2_with (gi_at_call 82; refine (callsIn_wide.2 (width_q _ _)).mono ?_; rintro e w' ⟨rfl, rfl⟩)
          refine ⟨(fun f h => by cases h), ?_⟩
          gi_wp2
          go_roundw
          case rel => exact ⟨pos + c.2, f, [(pos, c.1, c.2)], pre, .inr ⟨by omega, pos, wid c.1, by rw [HR.out]; simp [celsOf, celStep_nil, celNew, HZ.out], rfl, rfl⟩, HJ2.out, HI2.out, hc2, HA2.out, by omega, hfit⟩
          case measure => simp only [World.iterPos, HI2.out, HI.out]; omega
      · have hi0 : (0 : Int) < (pos : Int) := by omega
        have HE := Lib.hid hce
        clear hce
        have hok := waits_ok HA3.out HE.out
        by_cases hz : wid c.1 = 0
        · have t1 : (wid (c.1 : Int) == 0) = true := by simpa using hz
          have HZ := Lib.hid hz
          clear hz
          gi_wp2_with (gi_at_call 82; refine (callsIn_wide.2 (width_q _ _)).mono ?_; rintro e w' ⟨rfl, rfl⟩)
          go_roundw
          case rel => exact ⟨pos + c.2, f, acc ++ [(pos, c.1, c.2)], pre, .inr ⟨by omega, b, m, by unfold celsOf; rw [List.foldl_append]; show celStep (celsOf acc) _ = _; rw [HE.out, celStep_more _ _ _ HZ.out], rfl, rfl⟩, HJ2.out, HI2.out, hc2, HA2.out, by omega, hfit⟩
          case measure => simp only [World.iterPos, HI2.out, HI.out]; omega
        · have t1 : (wid (c.1 : Int) == 0) = false := by simpa using hz
          have hw1 : 1 ≤ wid c.1 := by have := wid_012 c.1; omega
          have hpf : pre.map (·.1) ++ [(b, pos, m)] <+: cells s := by
            have := cel_told acc (pos, c.1, c.2) (chs s f (pos + c.2)) hz
            rw [HA3.out, HE.out] at this
            exact this
          have hlen : pre.length < (cells s).length := by have := hpf.length_le; simp at this; omega
          have HZ := Lib.hid hz
          have HPF := Lib.hid hpf
          obtain ⟨fn, tmps, assign, body, hy, hR⟩ := hY pre ⟨(b, pos, m), hok⟩ _ HJ2.out hlen
          simp only [celA] at hy
          have b1 : (0 : Int) ≤ b := by omega
          have b2 : (b : Int) ≤ pos := by have := hok.2.1; simp at this; omega
          have b3 : (pos : Int) ≤ s.size := by omega
          clear hz hpf hlen hJ hY
          gi_wp2_with (gi_at_call 82; refine (callsIn_wide.2 (width_q _ _)).mono ?_; rintro e w' ⟨rfl, rfl⟩)
          refine hR.mono ?_
          rintro e W3 (⟨rfl, hJ3, hk3⟩ | ⟨rfl, hJx3⟩)
          · have hc3 := hk3.2 _ hc2
            have hit3 := hk3.1.same _ _ HI2.out rfl
            have HJ3 := Lib.hid hJ3
            have HI3 := Lib.hid hit3
            clear hJ3 hit3 hk3 hc2
            gi_wp2
            go_roundw
            case rel => exact ⟨pos + c.2, f, acc ++ [(pos, c.1, c.2)], pre ++ [⟨(b, pos, m), hok⟩], .inr ⟨by omega, pos, wid c.1, by unfold celsOf; rw [List.foldl_append]; show celStep (celsOf acc) _ = _; rw [HE.out, celStep_new _ _ HZ.out]; simp [celNew, HZ.out], rfl, rfl⟩, HJ3.out, HI3.out, hc3, HA2.out, by omega, hfit⟩
            case measure => simp only [World.iterPos, HI3.out, HI.out]; omega
          · gi_wp2
            refine bodyPost_ret (results_none rfl _ _ _) rfl ?_
            exact ⟨⟨_, rfl⟩, .inr ⟨pre ++ [⟨(b, pos, m), hok⟩], by simpa using HPF.out, hJx3⟩⟩
    · have hnx : ∀ ty, (Instr.next (.pointer (some ⟨W.heap.size, 0, none⟩)) true ty).run Tryz.prog wr = _ := fun ty => Lib.run_next_end_at wr W.heap.size s pos ty hit hp
      obtain rfl : pos = s.size := by omega
      rw [chs_end s fuel _ hp, List.append_nil] at hacc
      subst hacc
      clear hit hJ
      rcases hwt with ⟨hac, hp0, hpre, rfl, rfl⟩ | ⟨h0p, b, m, hce, rfl, rfl⟩
      · have t1 : s.toList = [] := by rw [ByteArray.toList_eq]; exact List.eq_nil_of_length_eq_zero (by simpa using hp0)
        have hd : pre.map (·.1) = cells s := by unfold cells; rw [hac, hpre]; rfl
        have HD := Lib.hid hd
        clear hd hac hp0 hpre
        gi_wp2
        go_end0
        exact ⟨⟨_, rfl⟩, .inl ⟨pre, HD.out, hj⟩⟩
      · have hok := waits_ok (rest := []) (List.append_nil _) hce
        have hd : pre.map (·.1) ++ [(b, s.size, m)] = cells s := hce.symm
        have hlen : pre.length < (cells s).length := by rw [← hd]; simp
        have HD := Lib.hid hd
        have t1 := notEmpty h0p
        obtain ⟨fn, tmps, assign, body, hy, hR⟩ := hY pre ⟨(b, s.size, m), hok⟩ _ hj hlen
        simp only [celA] at hy
        have b1 : (0 : Int) ≤ b := by omega
        have b2 : (b : Int) ≤ s.size := by have := hok.2.1; simp at this; omega
        clear hd hlen hY hce hj
        gi_wp2
        refine hR.mono ?_
        rintro e W3 (⟨rfl, hJ3, hk3⟩ | ⟨rfl, hJx3⟩)
        · clear hk3
          gi_wp2
          go_end0
          exact ⟨⟨_, rfl⟩, .inl ⟨pre ++ [⟨(b, s.size, m), hok⟩], by simpa using HD.out, hJ3⟩⟩
        · gi_wp2
          go_end0
          exact ⟨⟨_, rfl⟩, .inr ⟨pre ++ [⟨(b, s.size, m), hok⟩], by rw [← HD.out]; simp, hJx3⟩⟩
end Go.Proofs.YtceanagnkcejgaaGreatDoor
