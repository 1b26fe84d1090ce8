/- The characters of a text: Chars of the document's answer for layer 2. -/
import Derived.Test.YtoeknophfcfahaaGreatDoorSmalln
import Derived.Test.YtoeknophfcfahaaGreatDoorChsn
import Derived.Lib.OthersKept
import Derived.WalkSmall
import Derived.Outline
import Derived.Deep.AppendLies
import Derived.Laws.OwnMore
import Derived.Deep.Onto
import Derived.Deep.DeepMust
namespace Go.Proofs.YtoeknophfcfahaaGreatDoor
open Go.RowKit Go.Maps

theorem raw_one (c : Ch) : ∀ u ∈ raw c, u.oneCell' = true := by
  intro u hu; simp [raw] at hu; rcases hu with rfl | rfl | rfl | rfl <;> rfl
theorem cells_new (w : World) (cs : Array Value) (t : TypeId) (j : Nat) (u : Value) (h : cs.toList[j]? = some u) : (w.alloc (.cells cs t)).cell? ((⟨w.heap.size, 0, none⟩ : Addr).add j) = some u := by
  have h' : cs[j]? = some u := by simpa using h
  by_cases hj : j = 0
  · subst hj; simp [Addr.add, h']
  · simp [Addr.add, hj, h']

theorem close_round {s : ByteArray} {w wr : World} {g cap k : Nat} {xs : List Value} {c : Ch} {A B : Value} {x : Int}
    (hx : Holds4 xs (chars s) k) (hc : (chars s)[k]? = some c) (hlt : k < (chars s).length) (hg : w.heap.size + 1 ≤ g)
    (hown : wr.ownsRow (w.heap.size + 1) 151 4 (.slice (some ⟨g, 0, none⟩) (chars s).length cap) (chars s).length xs) (hbw : Below w.heap.size w wr)
    (hA : A = .int .i64 c.2.2) (hB : B = .bool (badB c)) (hX : x = (k : Int) + 1) :
    ∃ (k' : Nat) (xs' : List Value), Value.int .i64 x = .int .i64 k' ∧ k' ≤ (chars s).length ∧
      ((wr.setCell ⟨g, k * 4 + 2, none⟩ A).setCell ⟨g, k * 4 + 3, none⟩ B).ownsRow (w.heap.size + 1) 151 4 (.slice (some ⟨g, 0, none⟩) (chars s).length cap) (chars s).length xs' ∧
      Holds4 xs' (chars s) k' ∧ Below w.heap.size w ((wr.setCell ⟨g, k * 4 + 2, none⟩ A).setCell ⟨g, k * 4 + 3, none⟩ B) := by
  subst hA hB hX
  have st2 := World.ownsRow.stored hown (k * 4 + 2) (.int .i64 c.2.2)
  have st3 := World.ownsRow.stored st2.1 (k * 4 + 3) (.bool (badB c))
  exact ⟨k + 1, _, by simp, hlt, st3.1, holds4_step hx hc, (hbw.setCell (p := ⟨g, k * 4 + 2, none⟩) (by simp; omega) _).setCell (p := ⟨g, k * 4 + 3, none⟩) (by simp; omega) _⟩

theorem bad_true {c : Ch} (h : (c.2.1 : Int) = 65533) : ((c.2.2 : Int) == 1) = badB c := by
  have : c.2.1 = 65533 := by omega
  rw [Bool.eq_iff_iff]; simp [badB, this]; omega
theorem bad_false {c : Ch} (h : ¬ (c.2.1 : Int) = 65533) : false = badB c := by
  have : ¬ c.2.1 = 65533 := by omega
  simp [badB, this]
theorem own_below {w w' : World} {base : Nat} {e : TypeId} {size : Nat} {v : Value} {n : Nat} {xs : List Value} (h : w.ownsRow base e size v n xs) (hb : Below w.heap.size w w') : w'.ownsRow base e size v n xs := by
  refine ⟨h.1, ?_⟩
  rcases h.2 with h0 | ⟨g, cap, cur, h1, h2, h3, h4⟩
  · exact .inl h0
  · exact .inr ⟨g, cap, cur, h1, h2, (hb.block g (Array.getElem?_eq_some_iff.1 h3).1).trans h3, h4⟩
/-- What Chars answers: a new list that holds the characters of the text. -/
def IsChars (s : ByteArray) (w : World) (e : Ending) (w' : World) : Prop :=
  ∃ (v : Value) (xs : List Value), e = .returned v ∧ w'.ownsRow w.heap.size 151 4 v (chars s).length xs ∧ Holds4 xs (chars s) (chars s).length ∧ Below w.heap.size w w'

theorem info64 : (Tryz.prog.info? 151).map (fun i => (i.zero, i.size, i.bytes)) = some (some (.agg #[.int .i32 0, .int .i64 0, .int .i64 0, .bool false]), 4, 32) := by kernel_rfl

set_option maxRecDepth 100000 in
set_option maxHeartbeats 1000000 in
theorem chars_ref (s : ByteArray) (w : World) (hs : s.size ≤ 16777216) :
    Calls Tryz.prog 72 #[.string s] w (IsChars s w) := by
  obtain ⟨i0, hi, hz0, hz1, hz2⟩ := info_parts info64
  go_enter Tryz.func72, Tryz.ntmps72
  go_wp2
  go_loopw [3] (fun v wr => ∃ (pos fuel : Nat) (acc : List Ch), wr.ownsRow (w.heap.size + 1) 151 4 v acc.length (raws acc) ∧ wr.heap[w.heap.size]? = some (.stringIter s pos) ∧ Below w.heap.size w wr ∧ acc ++ chs s fuel pos = chars s ∧ s.size ≤ pos + fuel ∧ acc.length ≤ pos ∧ acc.length ≤ s.size) (fun _ wr => s.size - wr.iterPos w.heap.size)
  case atStart =>
    refine ⟨0, s.size, [], World.ownsRow_nil _ _ _ _, ?_, (Below.refl _ w).alloc (Nat.le_refl _) _, rfl, by omega, by simp, by simp⟩
    have := World.iter_heap w s 0
    simpa using this
  case round =>
    obtain ⟨pos, fuel, acc, hown, hit, hbw, hacc, hfu, hal, hal2⟩ := hrel
    have hsz : w.heap.size < wr.heap.size := (Array.getElem?_eq_some_iff.1 hit).1
    by_cases hp : pos < s.size
    · have hnx : ∀ ty, (Instr.next (.pointer (some ⟨w.heap.size, 0, none⟩)) true ty).run Tryz.prog wr = _ := fun ty => Lib.run_next_any_at wr w.heap.size s pos ty hit hp
      have hwd := width_pos s pos hp
      have hown2 := ownsRow_iterAt hown (Nat.lt_succ_self _) s (pos + (Utf8.decode s pos).2)
      have hit2 := Lib.iterAt_heap wr w.heap.size s pos (pos + (Utf8.decode s pos).2) hit
      have hbw2 := Lib.below_iterAt hbw (k := w.heap.size) (by omega) s (pos + (Utf8.decode s pos).2)
      obtain ⟨f, rfl⟩ : ∃ f, fuel = f + 1 := ⟨fuel - 1, by omega⟩
      have HA := Lib.hid hacc
      have HS := Lib.hid hs
      have HO := Lib.hid hown2
      have B1 : acc.length + 1 ≤ maxLen := by unfold maxLen; omega
      have B2 : (acc.length + 1) * 32 ≤ 140737488355328 := by omega
      have B3 : w.heap.size + 1 ≤ ((wr.iterAt w.heap.size s (pos + (Utf8.decode s pos).2)).alloc (.cells #[.int .i32 (Utf8.decode s pos).1, .int .i64 pos, .int .i64 0, .bool false] 151)).heap.size := by simp [Lib.iterAt_size]; omega
      have HB1 := Lib.hid B1
      have HB2 := Lib.hid B2
      have HB3 := Lib.hid B3
      clear B1 B2 B3 hs hacc hown hown2
      go_wp2_with (at_builtin; go_loud (refine wpList_append_own _ rfl _ _ 137 rfl (w.heap.size + 1) 151 i0 (.agg #[.int .i32 0, .int .i64 0, .int .i64 0, .bool false]) 4 32 Tryz.underlying137 hi hz0 hz1 hz2 rfl (by decide) _ _ _ rfl (HO.out.alloc _) ⟨(wr.iterAt w.heap.size s (pos + (Utf8.decode s pos).2)).heap.size, 0, none⟩ 1 1 (raw (pos, (Utf8.decode s pos).1, (Utf8.decode s pos).2)) rfl rfl (cells_new _ _ _) (raw_one _) HB1.out HB2.out HB3.out ?_); intro v' w1 hown' hgrow _)
      go_roundw
      case rel =>
        have hlt := HO.out.lt
        refine ⟨pos + (Utf8.decode s pos).2, f, acc ++ [(pos, (Utf8.decode s pos).1, (Utf8.decode s pos).2)], ?_, ?_, ?_, ?_, by omega, by simp; omega, by simp; omega⟩
        · rw [raws_snoc, List.length_append]; exact hown'
        · rw [hgrow.block _ (by simp [Lib.iterAt_size]; omega) (fun e => by have := hlt _ e.symm; omega), Below.heap_alloc _ _ _ (by simp [Lib.iterAt_size]; omega)]
          exact hit2
        · exact (hbw2.alloc (by simp [Lib.iterAt_size]; omega) _).grown hgrow (by simp [Lib.iterAt_size]; omega) (fun k hk => by have := hlt _ hk; omega)
        · rw [← HA.out]; simp [chs, hp]
      case measure =>
        have hlt := HO.out.lt
        simp only [World.iterPos, hit]
        rw [hgrow.block _ (by simp [Lib.iterAt_size]; omega) (fun e => by have := hlt _ e.symm; omega), Below.heap_alloc _ _ _ (by simp [Lib.iterAt_size]; omega), hit2]
        simp only []
        omega
    · have hnx : ∀ ty, (Instr.next (.pointer (some ⟨w.heap.size, 0, none⟩)) true ty).run Tryz.prog wr = _ := fun ty => Lib.run_next_end_at wr w.heap.size s pos ty hit hp
      obtain rfl : acc = chars s := by rw [← hacc, chs_end s fuel pos hp, List.append_nil]
      have HI := Lib.hid hit
      clear hacc hit hfu
      have hl : (chars s).length ≤ 16777216 := by omega
      have HS := Lib.hid hs
      clear hal hs hal2
      have HO := Lib.hid hown
      have HB := Lib.hid hbw
      clear hown hbw hnx
      have hnx : ∀ ty, (Instr.next (.pointer (some ⟨w.heap.size, 0, none⟩)) true ty).run Tryz.prog wr = _ := fun ty => Lib.run_next_end_at wr w.heap.size s pos ty HI.out hp
      go_wp2_with fail
      clear hnx hp HI
      go_loopw [6, 7] (fun i _ w2 => ∃ (k : Nat) (xs : List Value), i = .int .i64 k ∧ k ≤ (chars s).length ∧ w2.ownsRow (w.heap.size + 1) 151 4 u3 (chars s).length xs ∧ Holds4 xs (chars s) k ∧ Below w.heap.size w w2) (fun i _ _ => (chars s).length - (intOf i).toNat)
      case atStart => exact ⟨0, _, rfl, Nat.zero_le _, HO.out, holds4_raws _, HB.out⟩
      case round =>
        obtain ⟨k, xs, rfl, hk, hown, hx, hbw⟩ := hrel
        by_cases hlt : k < (chars s).length
        · obtain ⟨g, cap, rfl, hg, hgl⟩ := World.ownsRow.form hown (by omega)
          obtain ⟨c, hc⟩ : ∃ c, (chars s)[k]? = some c := ⟨_, List.getElem?_eq_getElem hlt⟩
          obtain ⟨h0, h1, _⟩ := hx.2 k c hc
          have hxl := hx.1
          have hmem : c ∈ chars s := List.mem_of_getElem? hc
          have hw := chars_width s c hmem
          have hr := chars_rune s c hmem
          obtain ⟨o2, ho2⟩ : ∃ u, xs[k * 4 + 2]? = some u := ⟨_, List.getElem?_eq_getElem (by omega)⟩
          obtain ⟨o3, ho3⟩ : ∃ u, xs[k * 4 + 3]? = some u := ⟨_, List.getElem?_eq_getElem (by omega)⟩
          have g0 := (World.ownsRow.cellAt hown (k * 4) (by omega)).trans h0
          have g1 := (World.ownsRow.cellAt hown (k * 4 + 1) (by omega)).trans h1
          have g2 := (World.ownsRow.cellAt hown (k * 4 + 2) (by omega)).trans ho2
          have g3 := (World.ownsRow.cellAt hown (k * 4 + 3) (by omega)).trans ho3
          have f2 := World.ownsRow.frozenAt hown (k * 4 + 2)
          have f3 := World.ownsRow.frozenAt hown (k * 4 + 3)
          have hend := chars_ends s k hlt
          have hck : (chars s)[k] = c := (List.getElem?_eq_some_iff.1 hc).2
          rw [hck] at hend
          have HX := Lib.hid hx
          have HC := Lib.hid hc
          have HN := Lib.hid hend
          have HW := Lib.hid hown
          have HR := Lib.hid hbw
          clear hx hc hend hbw h0 h1 hxl hmem ho2 ho3 hck hown HO HB
          by_cases hn : k + 1 < (chars s).length
          · have hd : (chars s)[k + 1]? = some ((chars s)[k + 1]) := List.getElem?_eq_getElem hn
            have g5 := (World.ownsRow.cellAt HW.out ((k + 1) * 4 + 1) (by omega)).trans (HX.out.2 (k + 1) _ hd).2.1
            have hN := HN.out
            rw [dif_pos hn] at hN
            have hS := HS.out
            have hw5 := chars_width s _ (List.mem_of_getElem? hd)
            have hA : wrap64 (((chars s)[k + 1].1 : Int) - (c.1 : Int)) = c.2.2 := by unfold wrap64; omega
            have hA' : Value.int .i64 (wrap64 (((chars s)[k + 1].1 : Int) - (c.1 : Int))) = .int .i64 c.2.2 := by rw [hA]
            have HA1 := Lib.hid hA
            have HA2 := Lib.hid hA'
            have hn2 : (k : Int) + 1 < (chars s).length := by omega
            clear hA hA' hN hS hw5 hd
            go_wp2_with fail
            all_goals go_roundw
            all_goals try (case measure => simp [intOf]; omega)
            all_goals (refine close_round HX.out HC.out hlt hg HW.out HR.out HA2.out ?_ rfl)
            all_goals first | (rw [HA1.out, bad_true ‹_›]) | (rw [bad_false ‹_›])
          · have hN := HN.out
            rw [dif_neg hn] at hN
            have hS := HS.out
            have hA : wrap64 ((s.size : Int) - (c.1 : Int)) = c.2.2 := by unfold wrap64; omega
            have hA' : Value.int .i64 (wrap64 ((s.size : Int) - (c.1 : Int))) = .int .i64 c.2.2 := by rw [hA]
            have HA1 := Lib.hid hA
            have HA2 := Lib.hid hA'
            clear hA hA' hN hS
            go_wp2_with fail
            all_goals go_roundw
            all_goals try (case measure => simp [intOf]; omega)
            all_goals (refine close_round HX.out HC.out hlt hg HW.out HR.out HA2.out ?_ rfl)
            all_goals first | (rw [HA1.out, bad_true ‹_›]) | (rw [bad_false ‹_›])
        · obtain rfl : k = (chars s).length := by omega
          have HX := Lib.hid hx
          have HW := Lib.hid hown
          have HR := Lib.hid hbw
          clear hx hbw
          rcases hown.2 with ⟨rfl, h0⟩ | ⟨g, cap, cur, rfl, _⟩
          · have hz : ((chars s).length : Int) ≤ 0 := by omega
            clear hown h0
            go_wp2_with fail
            go_ret
            exact ⟨_, xs, rfl, World.ownsRow.mono HW.out (by omega), HX.out, HR.out⟩
          · clear hown
            go_wp2_with fail
            go_ret
            exact ⟨_, xs, rfl, World.ownsRow.mono HW.out (by omega), HX.out, HR.out⟩
end Go.Proofs.YtoeknophfcfahaaGreatDoor
