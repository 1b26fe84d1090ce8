/- The texts that the laws of layout stand on, part 8. -/
import Derived.Test.YtjohhahfpgfjdaaGreatDoorProg
import Derived.WalkKit
import Derived.Lib.Hide
import Derived.IntWalk
import Derived.Outline
import Derived.WalkLawsBesides
import Derived.Laws.RangeAny
import GoSem.Core.Utf8
import Derived.Lib.OthersKept
import Derived.WalkSmall
import Derived.Deep.AppendLies
import Derived.Laws.OwnMore
import Derived.Deep.Onto
import Derived.Deep.DeepMust
import Derived.Deep.QuietTactic
import Derived.BigQuiet
import Derived.Deep.RegionLaw
import Derived.RangeFuncNested
import Derived.RangeFuncBound
import Derived.RangeFuncCalls
import Derived.RangeFuncLeaves
import Derived.RangeFuncBox
import Derived.Shelf.Abstract
import Derived.Shelf.RegionOpen
import Derived.OwnWalkIn
import Derived.TacticsInMore
import Derived.LoopNIn
import Derived.LoopIn
import Derived.Maps.AppendAt
section
namespace Go.Proofs.YtjohhahfpgfjdaaGreatDoor
section
open Go.RowKit

def inB (r lo hi : Int) : Bool := decide (lo ≤ r ∧ r ≤ hi)
def ctl (r : Int) : Bool := inB r 0 31 || inB r 127 159
def wid (r : Int) : Int :=
  if ctl r || inB r 768 879 || inB r 8203 8205 || inB r 65024 65039 then 0
  else if inB r 4352 4447 || inB r 11904 12350 || inB r 12353 13311 || inB r 13312 19903 || inB r 19968 42191 || inB r 44032 55203 then 2
  else if inB r 63744 64255 || inB r 65072 65135 || inB r 65280 65376 || inB r 65504 65510 || inB r 127744 128591 || inB r 129280 129535 || inB r 131072 262141 then 2
  else 1
theorem ret_bool {a b : Bool} (h : a = b) : Ending.returned (.bool a) = Ending.returned (.bool b) := by rw [h]
theorem ret_int {k : IntKind} {a b : Int} (h : a = b) : Ending.returned (.int k a) = Ending.returned (.int k b) := by rw [h]

theorem in_ref (r lo hi : Int) (w : World) :
    Calls Tryz.prog 68 #[.int .i32 r, .int .i32 lo, .int .i32 hi] w fun e w' => e = .returned (.bool (inB r lo hi)) ∧ w = w' := by
  go_enter Tryz.func68, Tryz.ntmps68
  go_wp2
  all_goals go_ret
  all_goals (refine ⟨ret_bool ?_, rfl⟩; rw [Bool.eq_iff_iff]; simp [inB]; try omega)

theorem control_ref (r : Int) (w : World) :
    Calls Tryz.prog 39 #[.int .i32 r] w fun e w' => e = .returned (.bool (ctl r)) ∧ w = w' := by
  go_enter Tryz.func39, Tryz.ntmps39
  go_wp2
  all_goals go_ret
  all_goals (refine ⟨ret_bool ?_, rfl⟩; rw [Bool.eq_iff_iff]; simp [ctl, inB]; try omega)

end
section
open Go.RowKit

end
section
open Go.RowKit

theorem within_pro (r lo hi : Int) (w : World) :
    Calls Tryz.prog 136 #[.int .i32 r, .int .i32 lo, .int .i32 hi] w fun e w' => e = .returned (.bool (inB r lo hi)) ∧ w = w' := by
  go_enter Tryz.func136, Tryz.ntmps136
  go_wp2
  all_goals go_ret
  all_goals (refine ⟨ret_bool ?_, rfl⟩; rw [Bool.eq_iff_iff]; simp [inB]; try omega)

set_option maxRecDepth 100000 in
set_option maxHeartbeats 2000000 in
theorem width_q (r : Int) (w : World) :
    Calls Tryz.prog 141 #[.int .i32 r] w fun e w' => e = .returned (.int .i64 (wid r)) ∧ w = w' := by
  go_enter Tryz.func141, Tryz.ntmps141
  go_wp2_with (first | (go_at_call 136; refine (within_pro _ _ _ _).mono ?_; rintro e w' ⟨rfl, rfl⟩))
  all_goals go_ret
  all_goals (refine ⟨ret_int ?_, rfl⟩; simp [wid, ctl, *])

end
section
open Go

theorem decode_fits (s : ByteArray) (pos : Nat) (h : pos < s.size) : pos + (Utf8.decode s pos).2 ≤ s.size := by
  simp only [Utf8.decode]
  repeat' split
  all_goals simp_all
  all_goals omega
theorem width_pos (s : ByteArray) (pos : Nat) (h : pos < s.size) : 1 ≤ (Utf8.decode s pos).2 := by
  by_cases ha : (s[pos]'h).toNat < 128
  · rw [decode_ascii s pos h ha]
    exact Nat.le_refl _
  · exact (decode_high s pos h (by omega)).2

/-- A character: its place, its code point, its bytes. -/
abbrev Ch := Nat × Nat × Nat
def chs (s : ByteArray) : Nat → Nat → List Ch
  | 0, _ => []
  | fuel + 1, pos => if pos < s.size then (pos, (Utf8.decode s pos).1, (Utf8.decode s pos).2) :: chs s fuel (pos + (Utf8.decode s pos).2) else []
def chars (s : ByteArray) : List Ch := chs s s.size 0
def badB (c : Ch) : Bool := c.2.1 == 65533 && c.2.2 == 1

theorem chs_end (s : ByteArray) (fuel pos : Nat) (h : ¬ pos < s.size) : chs s fuel pos = [] := by
  cases fuel with
  | zero => rfl
  | succ f => simp [chs, h]
theorem chs_head (s : ByteArray) (fuel pos : Nat) (h : 0 < (chs s fuel pos).length) : ((chs s fuel pos)[0]'h).1 = pos := by
  cases fuel with
  | zero => simp [chs] at h
  | succ f =>
    by_cases hp : pos < s.size
    · simp [chs, hp]
    · simp [chs, hp] at h
/-- Each character ends where the next one begins, the last one at the text's end. -/
theorem chs_ends (s : ByteArray) : ∀ (fuel pos : Nat), s.size ≤ pos + fuel → pos ≤ s.size → ∀ (i : Nat) (h : i < (chs s fuel pos).length),
    ((chs s fuel pos)[i]).1 + ((chs s fuel pos)[i]).2.2 = (if h' : i + 1 < (chs s fuel pos).length then ((chs s fuel pos)[i + 1]).1 else s.size)
  | 0, pos, _, _, i, h => by simp [chs] at h
  | fuel + 1, pos, hf, hps, i, h => by
    by_cases hp : pos < s.size
    · have hw := width_pos s pos hp
      have hfit := decode_fits s pos hp
      have ih := chs_ends s fuel (pos + (Utf8.decode s pos).2) (by omega) (by omega)
      simp only [chs, hp, if_true] at h ⊢
      cases i with
      | zero =>
        by_cases hl : 0 < (chs s fuel (pos + (Utf8.decode s pos).2)).length
        · have := chs_head s fuel _ hl
          simp [hl, this]
        · have hnil : chs s fuel (pos + (Utf8.decode s pos).2) = [] := List.eq_nil_of_length_eq_zero (by omega)
          have hend : ¬ (pos + (Utf8.decode s pos).2) < s.size := by
            intro hlt
            cases fuel with
            | zero => omega
            | succ f => simp [chs, hlt] at hnil
          simp [hnil]
          omega
      | succ i =>
        have := ih i (by simpa using h)
        simpa using this
    · simp [chs, hp] at h
theorem chars_ends (s : ByteArray) (i : Nat) (h : i < (chars s).length) :
    ((chars s)[i]).1 + ((chars s)[i]).2.2 = (if h' : i + 1 < (chars s).length then ((chars s)[i + 1]).1 else s.size) :=
  chs_ends s s.size 0 (by omega) (by omega) i h
/-- Each character is what is decoded at its place. -/
theorem chs_at (s : ByteArray) : ∀ (fuel pos : Nat) (c : Ch), c ∈ chs s fuel pos → pos ≤ c.1 ∧ c.1 < s.size ∧ c.2 = Utf8.decode s c.1
  | 0, pos, c, h => by simp [chs] at h
  | fuel + 1, pos, c, h => by
    by_cases hp : pos < s.size
    · simp only [chs, hp, if_true, List.mem_cons] at h
      rcases h with rfl | h
      · exact ⟨by simp, hp, rfl⟩
      · obtain ⟨h1, h2, h3⟩ := chs_at s fuel _ c h
        exact ⟨by omega, h2, h3⟩
    · simp [chs, hp] at h
theorem chars_at (s : ByteArray) (c : Ch) (h : c ∈ chars s) : c.1 < s.size ∧ c.2 = Utf8.decode s c.1 := (chs_at s _ _ c h).2
theorem chars_rune (s : ByteArray) (c : Ch) (h : c ∈ chars s) : c.2.1 ≤ 2147483647 := by
  rw [(chars_at s c h).2]; exact decode_le s c.1
theorem chars_width (s : ByteArray) (c : Ch) (h : c ∈ chars s) : 1 ≤ c.2.2 ∧ c.1 + c.2.2 ≤ s.size := by
  obtain ⟨h1, h2⟩ := chars_at s c h
  rw [h2]; exact ⟨width_pos s _ h1, decode_fits s _ h1⟩
theorem chs_len (s : ByteArray) : ∀ (fuel pos : Nat), pos ≤ s.size → (chs s fuel pos).length + pos ≤ s.size
  | 0, pos, h => by simp [chs]; exact h
  | fuel + 1, pos, h => by
    by_cases hp : pos < s.size
    · have hw := width_pos s pos hp
      have hfit := decode_fits s pos hp
      have := chs_len s fuel (pos + (Utf8.decode s pos).2) hfit
      simp [chs, hp]; omega
    · simp [chs, hp]; exact h
theorem chars_len (s : ByteArray) : (chars s).length ≤ s.size := by have := chs_len s s.size 0 (by omega); simpa [chars] using this

/-- What the cells of a list of characters hold: of all their code points and places, of the first k the rest. -/
def Holds4 (xs : List Value) (l : List Ch) (k : Nat) : Prop :=
  xs.length = l.length * 4 ∧ ∀ (i : Nat) (c : Ch), l[i]? = some c → xs[i * 4]? = some (.int .i32 c.2.1) ∧ xs[i * 4 + 1]? = some (.int .i64 c.1) ∧ (i < k → xs[i * 4 + 2]? = some (.int .i64 c.2.2) ∧ xs[i * 4 + 3]? = some (.bool (badB c)))
def raw (c : Ch) : List Value := [.int .i32 c.2.1, .int .i64 c.1, .int .i64 0, .bool false]
def raws (l : List Ch) : List Value := l.flatMap raw
theorem raws_len (l : List Ch) : (raws l).length = l.length * 4 := by
  induction l with
  | nil => rfl
  | cons a l ih => simp [raws, raw] at ih ⊢; omega
theorem raws_snoc (l : List Ch) (c : Ch) : raws (l ++ [c]) = raws l ++ raw c := by simp [raws]
theorem raws_get : ∀ (l : List Ch) (i : Nat) (c : Ch), l[i]? = some c → (raws l)[i * 4]? = some (.int .i32 c.2.1) ∧ (raws l)[i * 4 + 1]? = some (.int .i64 c.1)
  | [], i, c, h => by simp at h
  | a :: l, 0, c, h => by simp at h; subst h; simp [raws, raw]
  | a :: l, i + 1, c, h => by
    have ih := raws_get l i c (by simpa using h)
    have e : raws (a :: l) = raw a ++ raws l := by simp [raws]
    have hl : (raw a).length = 4 := rfl
    rw [e, List.getElem?_append_right (by omega), List.getElem?_append_right (by omega), hl, show (i + 1) * 4 - 4 = i * 4 by omega, show (i + 1) * 4 + 1 - 4 = i * 4 + 1 by omega]
    exact ih
theorem holds4_raws (l : List Ch) : Holds4 (raws l) l 0 := ⟨raws_len l, fun i c h => ⟨(raws_get l i c h).1, (raws_get l i c h).2, fun h0 => absurd h0 (by omega)⟩⟩
theorem holds4_step {xs : List Value} {l : List Ch} {k : Nat} {c : Ch} (h : Holds4 xs l k) (hk : l[k]? = some c) :
    Holds4 ((xs.set (k * 4 + 2) (.int .i64 c.2.2)).set (k * 4 + 3) (.bool (badB c))) l (k + 1) := by
  have hkl : k < l.length := (List.getElem?_eq_some_iff.1 hk).1
  refine ⟨by simpa using h.1, fun i d hd => ?_⟩
  have hlen := h.1
  obtain ⟨h1, h2, h3⟩ := h.2 i d hd
  refine ⟨?_, ?_, fun hi => ?_⟩
  · rw [List.getElem?_set_ne (by omega), List.getElem?_set_ne (by omega)]; exact h1
  · rw [List.getElem?_set_ne (by omega), List.getElem?_set_ne (by omega)]; exact h2
  · by_cases e : i = k
    · subst e
      obtain rfl : d = c := by rw [hk] at hd; exact (Option.some.inj hd).symm
      refine ⟨?_, ?_⟩
      · rw [List.getElem?_set_ne (by omega), List.getElem?_set_self (by omega)]
      · rw [List.getElem?_set_self (by simp; omega)]
    · obtain ⟨h4, h5⟩ := h3 (by omega)
      refine ⟨?_, ?_⟩
      · rw [List.getElem?_set_ne (by omega), List.getElem?_set_ne (by omega)]; exact h4
      · rw [List.getElem?_set_ne (by omega), List.getElem?_set_ne (by omega)]; exact h5
end
section
open Go.RowKit Go.Maps

theorem raw_one (c : Ch) : ∀ u ∈ raw c, u.oneCell' = true := by
  intro u hu; simp [raw] at hu; rcases hu with rfl | rfl | rfl | rfl <;> rfl
theorem cells_new (w : World) (cs : Array Value) (t : TypeId) (j : Nat) (u : Value) (h : cs.toList[j]? = some u) : (w.alloc (.cells cs t)).cell? ((⟨w.heap.size, 0, none⟩ : Addr).add j) = some u := by
  have h' : cs[j]? = some u := by simpa using h
  by_cases hj : j = 0
  · subst hj; simp [Addr.add, h']
  · simp [Addr.add, hj, h']

theorem close_round {s : ByteArray} {w wr : World} {g cap k : Nat} {xs : List Value} {c : Ch} {A B : Value} {x : Int}
    (hx : Holds4 xs (chars s) k) (hc : (chars s)[k]? = some c) (hlt : k < (chars s).length) (hg : w.heap.size + 1 ≤ g)
    (hown : wr.ownsRow (w.heap.size + 1) 99 4 (.slice (some ⟨g, 0, none⟩) (chars s).length cap) (chars s).length xs) (hbw : Below w.heap.size w wr)
    (hA : A = .int .i64 c.2.2) (hB : B = .bool (badB c)) (hX : x = (k : Int) + 1) :
    ∃ (k' : Nat) (xs' : List Value), Value.int .i64 x = .int .i64 k' ∧ k' ≤ (chars s).length ∧
      ((wr.setCell ⟨g, k * 4 + 2, none⟩ A).setCell ⟨g, k * 4 + 3, none⟩ B).ownsRow (w.heap.size + 1) 99 4 (.slice (some ⟨g, 0, none⟩) (chars s).length cap) (chars s).length xs' ∧
      Holds4 xs' (chars s) k' ∧ Below w.heap.size w ((wr.setCell ⟨g, k * 4 + 2, none⟩ A).setCell ⟨g, k * 4 + 3, none⟩ B) := by
  subst hA hB hX
  have st2 := World.ownsRow.stored hown (k * 4 + 2) (.int .i64 c.2.2)
  have st3 := World.ownsRow.stored st2.1 (k * 4 + 3) (.bool (badB c))
  exact ⟨k + 1, _, by simp, hlt, st3.1, holds4_step hx hc, (hbw.setCell (p := ⟨g, k * 4 + 2, none⟩) (by simp; omega) _).setCell (p := ⟨g, k * 4 + 3, none⟩) (by simp; omega) _⟩

theorem bad_true {c : Ch} (h : (c.2.1 : Int) = 65533) : ((c.2.2 : Int) == 1) = badB c := by
  have : c.2.1 = 65533 := by omega
  rw [Bool.eq_iff_iff]; simp [badB, this]; omega
theorem bad_false {c : Ch} (h : ¬ (c.2.1 : Int) = 65533) : false = badB c := by
  have : ¬ c.2.1 = 65533 := by omega
  simp [badB, this]
theorem own_below {w w' : World} {base : Nat} {e : TypeId} {size : Nat} {v : Value} {n : Nat} {xs : List Value} (h : w.ownsRow base e size v n xs) (hb : Below w.heap.size w w') : w'.ownsRow base e size v n xs := by
  refine ⟨h.1, ?_⟩
  rcases h.2 with h0 | ⟨g, cap, cur, h1, h2, h3, h4⟩
  · exact .inl h0
  · exact .inr ⟨g, cap, cur, h1, h2, (hb.block g (Array.getElem?_eq_some_iff.1 h3).1).trans h3, h4⟩
/-- What Chars answers: a new list that holds the characters of the text. -/
def IsChars (s : ByteArray) (w : World) (e : Ending) (w' : World) : Prop :=
  ∃ (v : Value) (xs : List Value), e = .returned v ∧ w'.ownsRow w.heap.size 99 4 v (chars s).length xs ∧ Holds4 xs (chars s) (chars s).length ∧ Below w.heap.size w w'

theorem info64 : (Tryz.prog.info? 99).map (fun i => (i.zero, i.size, i.bytes)) = some (some (.agg #[.int .i32 0, .int .i64 0, .int .i64 0, .bool false]), 4, 32) := by kernel_rfl

set_option maxRecDepth 100000 in
set_option maxHeartbeats 1000000 in
theorem chars_ref (s : ByteArray) (w : World) (hs : s.size ≤ 16777216) :
    Calls Tryz.prog 30 #[.string s] w (IsChars s w) := by
  obtain ⟨i0, hi, hz0, hz1, hz2⟩ := info_parts info64
  go_enter Tryz.func30, Tryz.ntmps30
  go_wp2
  go_loopw [3] (fun v wr => ∃ (pos fuel : Nat) (acc : List Ch), wr.ownsRow (w.heap.size + 1) 99 4 v acc.length (raws acc) ∧ wr.heap[w.heap.size]? = some (.stringIter s pos) ∧ Below w.heap.size w wr ∧ acc ++ chs s fuel pos = chars s ∧ s.size ≤ pos + fuel ∧ acc.length ≤ pos ∧ acc.length ≤ s.size) (fun _ wr => s.size - wr.iterPos w.heap.size)
  case atStart =>
    refine ⟨0, s.size, [], World.ownsRow_nil _ _ _ _, ?_, (Below.refl _ w).alloc (Nat.le_refl _) _, rfl, by omega, by simp, by simp⟩
    have := World.iter_heap w s 0
    simpa using this
  case round =>
    obtain ⟨pos, fuel, acc, hown, hit, hbw, hacc, hfu, hal, hal2⟩ := hrel
    have hsz : w.heap.size < wr.heap.size := (Array.getElem?_eq_some_iff.1 hit).1
    by_cases hp : pos < s.size
    · have hnx : ∀ ty, (Instr.next (.pointer (some ⟨w.heap.size, 0, none⟩)) true ty).run Tryz.prog wr = _ := fun ty => Lib.run_next_any_at wr w.heap.size s pos ty hit hp
      have hwd := width_pos s pos hp
      have hown2 := ownsRow_iterAt hown (Nat.lt_succ_self _) s (pos + (Utf8.decode s pos).2)
      have hit2 := Lib.iterAt_heap wr w.heap.size s pos (pos + (Utf8.decode s pos).2) hit
      have hbw2 := Lib.below_iterAt hbw (k := w.heap.size) (by omega) s (pos + (Utf8.decode s pos).2)
      obtain ⟨f, rfl⟩ : ∃ f, fuel = f + 1 := ⟨fuel - 1, by omega⟩
      have HA := Lib.hid hacc
      have HS := Lib.hid hs
      have HO := Lib.hid hown2
      have B1 : acc.length + 1 ≤ maxLen := by unfold maxLen; omega
      have B2 : (acc.length + 1) * 32 ≤ 140737488355328 := by omega
      have B3 : w.heap.size + 1 ≤ ((wr.iterAt w.heap.size s (pos + (Utf8.decode s pos).2)).alloc (.cells #[.int .i32 (Utf8.decode s pos).1, .int .i64 pos, .int .i64 0, .bool false] 99)).heap.size := by simp [Lib.iterAt_size]; omega
      have HB1 := Lib.hid B1
      have HB2 := Lib.hid B2
      have HB3 := Lib.hid B3
      clear B1 B2 B3 hs hacc hown hown2
      go_wp2_with (at_builtin; go_loud (refine wpList_append_own _ rfl _ _ 95 rfl (w.heap.size + 1) 99 i0 (.agg #[.int .i32 0, .int .i64 0, .int .i64 0, .bool false]) 4 32 Tryz.underlying95 hi hz0 hz1 hz2 rfl (by decide) _ _ _ rfl (HO.out.alloc _) ⟨(wr.iterAt w.heap.size s (pos + (Utf8.decode s pos).2)).heap.size, 0, none⟩ 1 1 (raw (pos, (Utf8.decode s pos).1, (Utf8.decode s pos).2)) rfl rfl (cells_new _ _ _) (raw_one _) HB1.out HB2.out HB3.out ?_); intro v' w1 hown' hgrow _)
      go_roundw
      case rel =>
        have hlt := HO.out.lt
        refine ⟨pos + (Utf8.decode s pos).2, f, acc ++ [(pos, (Utf8.decode s pos).1, (Utf8.decode s pos).2)], ?_, ?_, ?_, ?_, by omega, by simp; omega, by simp; omega⟩
        · rw [raws_snoc, List.length_append]; exact hown'
        · rw [hgrow.block _ (by simp [Lib.iterAt_size]; omega) (fun e => by have := hlt _ e.symm; omega), Below.heap_alloc _ _ _ (by simp [Lib.iterAt_size]; omega)]
          exact hit2
        · exact (hbw2.alloc (by simp [Lib.iterAt_size]; omega) _).grown hgrow (by simp [Lib.iterAt_size]; omega) (fun k hk => by have := hlt _ hk; omega)
        · rw [← HA.out]; simp [chs, hp]
      case measure =>
        have hlt := HO.out.lt
        simp only [World.iterPos, hit]
        rw [hgrow.block _ (by simp [Lib.iterAt_size]; omega) (fun e => by have := hlt _ e.symm; omega), Below.heap_alloc _ _ _ (by simp [Lib.iterAt_size]; omega), hit2]
        simp only []
        omega
    · have hnx : ∀ ty, (Instr.next (.pointer (some ⟨w.heap.size, 0, none⟩)) true ty).run Tryz.prog wr = _ := fun ty => Lib.run_next_end_at wr w.heap.size s pos ty hit hp
      obtain rfl : acc = chars s := by rw [← hacc, chs_end s fuel pos hp, List.append_nil]
      have HI := Lib.hid hit
      clear hacc hit hfu
      have hl : (chars s).length ≤ 16777216 := by omega
      have HS := Lib.hid hs
      clear hal hs hal2
      have HO := Lib.hid hown
      have HB := Lib.hid hbw
      clear hown hbw hnx
      have hnx : ∀ ty, (Instr.next (.pointer (some ⟨w.heap.size, 0, none⟩)) true ty).run Tryz.prog wr = _ := fun ty => Lib.run_next_end_at wr w.heap.size s pos ty HI.out hp
      go_wp2_with fail
      clear hnx hp HI
      go_loopw [6, 7] (fun i _ w2 => ∃ (k : Nat) (xs : List Value), i = .int .i64 k ∧ k ≤ (chars s).length ∧ w2.ownsRow (w.heap.size + 1) 99 4 u3 (chars s).length xs ∧ Holds4 xs (chars s) k ∧ Below w.heap.size w w2) (fun i _ _ => (chars s).length - (intOf i).toNat)
      case atStart => exact ⟨0, _, rfl, Nat.zero_le _, HO.out, holds4_raws _, HB.out⟩
      case round =>
        obtain ⟨k, xs, rfl, hk, hown, hx, hbw⟩ := hrel
        by_cases hlt : k < (chars s).length
        · obtain ⟨g, cap, rfl, hg, hgl⟩ := World.ownsRow.form hown (by omega)
          obtain ⟨c, hc⟩ : ∃ c, (chars s)[k]? = some c := ⟨_, List.getElem?_eq_getElem hlt⟩
          obtain ⟨h0, h1, _⟩ := hx.2 k c hc
          have hxl := hx.1
          have hmem : c ∈ chars s := List.mem_of_getElem? hc
          have hw := chars_width s c hmem
          have hr := chars_rune s c hmem
          obtain ⟨o2, ho2⟩ : ∃ u, xs[k * 4 + 2]? = some u := ⟨_, List.getElem?_eq_getElem (by omega)⟩
          obtain ⟨o3, ho3⟩ : ∃ u, xs[k * 4 + 3]? = some u := ⟨_, List.getElem?_eq_getElem (by omega)⟩
          have g0 := (World.ownsRow.cellAt hown (k * 4) (by omega)).trans h0
          have g1 := (World.ownsRow.cellAt hown (k * 4 + 1) (by omega)).trans h1
          have g2 := (World.ownsRow.cellAt hown (k * 4 + 2) (by omega)).trans ho2
          have g3 := (World.ownsRow.cellAt hown (k * 4 + 3) (by omega)).trans ho3
          have f2 := World.ownsRow.frozenAt hown (k * 4 + 2)
          have f3 := World.ownsRow.frozenAt hown (k * 4 + 3)
          have hend := chars_ends s k hlt
          have hck : (chars s)[k] = c := (List.getElem?_eq_some_iff.1 hc).2
          rw [hck] at hend
          have HX := Lib.hid hx
          have HC := Lib.hid hc
          have HN := Lib.hid hend
          have HW := Lib.hid hown
          have HR := Lib.hid hbw
          clear hx hc hend hbw h0 h1 hxl hmem ho2 ho3 hck hown HO HB
          by_cases hn : k + 1 < (chars s).length
          · have hd : (chars s)[k + 1]? = some ((chars s)[k + 1]) := List.getElem?_eq_getElem hn
            have g5 := (World.ownsRow.cellAt HW.out ((k + 1) * 4 + 1) (by omega)).trans (HX.out.2 (k + 1) _ hd).2.1
            have hN := HN.out
            rw [dif_pos hn] at hN
            have hS := HS.out
            have hw5 := chars_width s _ (List.mem_of_getElem? hd)
            have hA : wrap64 (((chars s)[k + 1].1 : Int) - (c.1 : Int)) = c.2.2 := by unfold wrap64; omega
            have hA' : Value.int .i64 (wrap64 (((chars s)[k + 1].1 : Int) - (c.1 : Int))) = .int .i64 c.2.2 := by rw [hA]
            have HA1 := Lib.hid hA
            have HA2 := Lib.hid hA'
            have hn2 : (k : Int) + 1 < (chars s).length := by omega
            clear hA hA' hN hS hw5 hd
            go_wp2_with fail
            all_goals go_roundw
            all_goals try (case measure => simp [intOf]; omega)
            all_goals (refine close_round HX.out HC.out hlt hg HW.out HR.out HA2.out ?_ rfl)
            all_goals first | (rw [HA1.out, bad_true ‹_›]) | (rw [bad_false ‹_›])
          · have hN := HN.out
            rw [dif_neg hn] at hN
            have hS := HS.out
            have hA : wrap64 ((s.size : Int) - (c.1 : Int)) = c.2.2 := by unfold wrap64; omega
            have hA' : Value.int .i64 (wrap64 ((s.size : Int) - (c.1 : Int))) = .int .i64 c.2.2 := by rw [hA]
            have HA1 := Lib.hid hA
            have HA2 := Lib.hid hA'
            clear hA hA' hN hS
            go_wp2_with fail
            all_goals go_roundw
            all_goals try (case measure => simp [intOf]; omega)
            all_goals (refine close_round HX.out HC.out hlt hg HW.out HR.out HA2.out ?_ rfl)
            all_goals first | (rw [HA1.out, bad_true ‹_›]) | (rw [bad_false ‹_›])
        · obtain rfl : k = (chars s).length := by omega
          have HX := Lib.hid hx
          have HW := Lib.hid hown
          have HR := Lib.hid hbw
          clear hx hbw
          rcases hown.2 with ⟨rfl, h0⟩ | ⟨g, cap, cur, rfl, _⟩
          · have hz : ((chars s).length : Int) ≤ 0 := by omega
            clear hown h0
            go_wp2_with fail
            go_ret
            exact ⟨_, xs, rfl, World.ownsRow.mono HW.out (by omega), HX.out, HR.out⟩
          · clear hown
            go_wp2_with fail
            go_ret
            exact ⟨_, xs, rfl, World.ownsRow.mono HW.out (by omega), HX.out, HR.out⟩
end
section
open Go

/-- A cell: its place, where it ends, how wide it is. -/
abbrev Cel := Nat × Nat × Int
def celNew (c : Ch) : Cel := (c.1, c.1 + c.2.2, if wid c.2.1 = 0 then 1 else wid c.2.1)
def celStep (out : List Cel) (c : Ch) : List Cel :=
  match out.getLast? with
  | some y => if wid c.2.1 = 0 then out.dropLast ++ [(y.1, c.1 + c.2.2, y.2.2)] else out ++ [celNew c]
  | none => [celNew c]
def celsOf (l : List Ch) : List Cel := l.foldl celStep []
def cells (s : ByteArray) : List Cel := celsOf (chars s)
theorem celStep_nil (c : Ch) : celStep [] c = [celNew c] := rfl
theorem celStep_more (init : List Cel) (y : Cel) (c : Ch) (h : wid c.2.1 = 0) : celStep (init ++ [y]) c = init ++ [(y.1, c.1 + c.2.2, y.2.2)] := by
  simp [celStep, h]
theorem celStep_new (out : List Cel) (c : Ch) (h : ¬ wid c.2.1 = 0) : celStep out c = out ++ [celNew c] := by
  unfold celStep
  cases e : out.getLast? with
  | none => rw [List.getLast?_eq_none_iff] at e; subst e; rfl
  | some y => simp [h]
theorem celsOf_take {l : List Ch} {k : Nat} {c : Ch} (h : l[k]? = some c) : celsOf (l.take (k + 1)) = celStep (celsOf (l.take k)) c := by
  have hk := (List.getElem?_eq_some_iff.1 h)
  obtain ⟨hk, e⟩ := hk
  unfold celsOf
  rw [List.take_succ_eq_append_getElem hk, List.foldl_append, e]
  rfl
theorem celStep_len (out : List Cel) (c : Ch) : (celStep out c).length ≤ out.length + 1 := by
  unfold celStep
  cases e : out.getLast? with
  | none => simp
  | some y =>
    simp only
    split <;> simp
theorem celsOf_len (l : List Ch) (k : Nat) : (celsOf (l.take k)).length ≤ k := by
  induction k with
  | zero => simp [celsOf]
  | succ k ih =>
    by_cases h : k < l.length
    · rw [celsOf_take (List.getElem?_eq_getElem h)]
      exact Nat.le_trans (celStep_len _ _) (by omega)
    · rw [List.take_of_length_le (by omega)]
      rw [List.take_of_length_le (by omega)] at ih
      omega
/-- The last cell ends where the next character begins. -/
theorem celsOf_last (s : ByteArray) (k : Nat) (hk : k ≤ (chars s).length) (init : List Cel) (y : Cel) (e : celsOf ((chars s).take k) = init ++ [y]) :
    y.2.1 = (if h : k < (chars s).length then ((chars s)[k]).1 else s.size) ∧ y.1 ≤ y.2.1 ∧ y.2.1 ≤ s.size := by
  induction k generalizing init y with
  | zero => simp [celsOf] at e
  | succ k ih =>
    have hlt : k < (chars s).length := by omega
    have hc : (chars s)[k]? = some ((chars s)[k]) := List.getElem?_eq_getElem hlt
    have hend := chars_ends s k hlt
    have hw := chars_width s _ (List.mem_of_getElem? hc)
    rw [celsOf_take hc] at e
    rcases List.eq_nil_or_concat (celsOf ((chars s).take k)) with h0 | ⟨i0, y0, h0⟩
    · rw [h0, celStep_nil] at e
      obtain ⟨rfl, rfl⟩ : init = [] ∧ y = celNew ((chars s)[k]) := by
        have := congrArg List.length e
        simp at this
        subst this
        simpa using e.symm
      simp only [celNew]
      exact ⟨hend, by omega, by omega⟩
    · rw [List.concat_eq_append] at h0
      by_cases hz : wid ((chars s)[k]).2.1 = 0
      · rw [h0, celStep_more _ _ _ hz] at e
        obtain ⟨_, e2⟩ := List.append_inj' e rfl
        obtain ⟨h1, h2, h3⟩ := ih (by omega) i0 y0 h0
        rw [dif_pos hlt] at h1
        simp at e2
        subst e2
        exact ⟨hend, by simp; omega, by simp; omega⟩
      · rw [celStep_new _ _ hz] at e
        obtain ⟨_, e2⟩ := List.append_inj' e rfl
        simp [celNew] at e2
        subst e2
        exact ⟨hend, by simp, by simp; omega⟩
theorem wid_012 (r : Int) : wid r = 0 ∨ wid r = 1 ∨ wid r = 2 := by
  unfold wid
  repeat' split
  all_goals simp
theorem cel_wide (l : List Ch) : ∀ y ∈ celsOf l, y.2.2 = 1 ∨ y.2.2 = 2 := by
  have key : ∀ (l : List Ch) (out : List Cel), (∀ y ∈ out, y.2.2 = 1 ∨ y.2.2 = 2) → ∀ y ∈ l.foldl celStep out, y.2.2 = 1 ∨ y.2.2 = 2 := by
    intro l
    induction l with
    | nil => intro out h; exact h
    | cons c l ih =>
      intro out h
      apply ih
      have hn : (celNew c).2.2 = 1 ∨ (celNew c).2.2 = 2 := by
        have := wid_012 c.2.1
        simp only [celNew]
        split <;> omega
      rcases List.eq_nil_or_concat out with h0 | ⟨i0, y0, h0⟩
      · subst h0
        intro y hy
        rw [celStep_nil] at hy
        simp at hy
        subst hy; exact hn
      · rw [List.concat_eq_append] at h0
        subst h0
        intro y hy
        by_cases hz : wid c.2.1 = 0
        · rw [celStep_more _ _ _ hz] at hy
          simp only [List.mem_append, List.mem_singleton] at hy
          rcases hy with hy | rfl
          · exact h y (by simp [hy])
          · exact h y0 (by simp)
        · rw [celStep_new _ _ hz] at hy
          simp only [List.mem_append, List.mem_singleton] at hy
          rcases hy with hy | rfl
          · exact h y (by simpa using hy)
          · exact hn
  exact key l [] (by simp)
/-- How wide a list of cells is. -/
def sumW (l : List Cel) : Int := (l.map (·.2.2)).sum
/-- What three cells of memory hold of a cell. -/
def celV (s : ByteArray) (y : Cel) : List Value := [.string (s.extract y.1 y.2.1), .int .i64 y.1, .int .i64 y.2.2]
def celsV (s : ByteArray) (l : List Cel) : List Value := l.flatMap (celV s)
theorem celsV_len (s : ByteArray) (l : List Cel) : (celsV s l).length = l.length * 3 := by
  induction l with
  | nil => rfl
  | cons a l ih => simp [celsV, celV] at ih ⊢; omega
theorem celsV_snoc (s : ByteArray) (l : List Cel) (y : Cel) : celsV s (l ++ [y]) = celsV s l ++ celV s y := by simp [celsV]
theorem celV_one (s : ByteArray) (y : Cel) : ∀ u ∈ celV s y, u.oneCell' = true := by
  intro u hu; simp [celV] at hu; rcases hu with rfl | rfl | rfl <;> rfl
theorem celsV_get (s : ByteArray) : ∀ (l : List Cel) (i : Nat) (y : Cel), l[i]? = some y →
    (celsV s l)[i * 3]? = some (.string (s.extract y.1 y.2.1)) ∧ (celsV s l)[i * 3 + 1]? = some (.int .i64 y.1) ∧ (celsV s l)[i * 3 + 2]? = some (.int .i64 y.2.2)
  | [], i, y, h => by simp at h
  | a :: l, 0, y, h => by simp at h; subst h; simp [celsV, celV]
  | a :: l, i + 1, y, h => by
    have ih := celsV_get s l i y (by simpa using h)
    have e : celsV s (a :: l) = celV s a ++ celsV s l := by simp [celsV]
    have hl : (celV s a).length = 3 := rfl
    rw [e, List.getElem?_append_right (by omega), List.getElem?_append_right (by omega), List.getElem?_append_right (by omega), hl, show (i + 1) * 3 - 3 = i * 3 by omega, show (i + 1) * 3 + 1 - 3 = i * 3 + 1 by omega, show (i + 1) * 3 + 2 - 3 = i * 3 + 2 by omega]
    exact ih
theorem celsV_set (s : ByteArray) (init : List Cel) (y : Cel) (t : Nat) : (celsV s (init ++ [y])).set (init.length * 3) (.string (s.extract y.1 t)) = celsV s (init ++ [(y.1, t, y.2.2)]) := by
  rw [celsV_snoc, celsV_snoc, List.set_append_right _ _ (by rw [celsV_len]; exact Nat.le_refl _), celsV_len]
  simp [celV]
theorem extract_join (s : ByteArray) (a b c : Nat) (h1 : a ≤ b) (h2 : b ≤ c) : s.extract a b ++ s.extract b c = s.extract a c := by
  simp [h1, h2, Nat.min_eq_left, Nat.max_eq_right]
end
section
open Go.RowKit Go.Maps

theorem own_drewN {w : World} {base : Nat} {e : TypeId} {size : Nat} {v : Value} {n : Nat} {xs : List Value} (h : w.ownsRow base e size v n xs) (m : Nat) : (w.drewN m).ownsRow base e size v n xs := h
end
section
open Go.RowKit Go.Maps

theorem cells_len (s : ByteArray) : (cells s).length ≤ s.size := by
  have h := celsOf_len (chars s) (chars s).length
  rw [List.take_length] at h
  exact Nat.le_trans h (chars_len s)
/-- How wide a text is. -/
def wide (s : ByteArray) : Int := sumW (cells s)

end
section
open Go.RowKit Go.Maps

end
section
open Go.RowKit Go.Shelf

attribute [local go_sem] Oper.semAt_some

/-- A cell of the text s, with what a loop over cells needs of it. -/
abbrev SCel (s : ByteArray) := { y : Cel // (y.2.2 = 1 ∨ y.2.2 = 2) ∧ y.1 ≤ y.2.1 ∧ y.2.1 ≤ s.size }
def celA (s : ByteArray) (y : Cel) : Value := .agg #[.string (s.extract y.1 y.2.1), .int .i64 y.1, .int .i64 y.2.2]
/-- What a round of a loop over cells keeps: the walks that are under way, and the variable that holds the text. -/
def KpS (B : Nat) (W W' : World) : Prop := KeepsWalks W W' ∧ ∀ v, W.cell? ⟨B, 0, none⟩ = some v → W'.cell? ⟨B, 0, none⟩ = some v
theorem KpS.t {B : Nat} {X Y Z : World} (h : KpS B X Y) (k : KpS B Y Z) : KpS B X Z := ⟨h.1.trans k.1, fun v e => k.2 v (h.2 v e)⟩
theorem KpS.put {B : Nat} (W : World) (l : Nat) (o o' : Obj) (h : W.heap[l]? = some o) (hc : o.isCells = false) (hw : o.isWalk = false) : KpS B W (W.putObj l o') := by
  refine ⟨KeepsWalks.putObj _ h hw, fun v e => ?_⟩
  have hne : B ≠ l := by
    rintro rfl
    unfold World.cell? at e
    rw [h] at e
    cases o <;> simp_all [Obj.isCells]
  unfold World.cell? at e ⊢
  simp only [] at e ⊢
  rw [World.putObj_heap_other hne]
  exact e
/-- Cells that have been told, and the one that waits. -/
def Waits (acc : List Ch) (pos : Nat) (pre : List Cel) (a w : Value) : Prop :=
  (acc = [] ∧ pos = 0 ∧ pre = [] ∧ a = .int .i64 0 ∧ w = .int .i64 0) ∨ (0 < pos ∧ ∃ (b : Nat) (m : Int), celsOf acc = pre ++ [(b, pos, m)] ∧ a = .int .i64 b ∧ w = .int .i64 m)

theorem cel_keep : ∀ (l : List Ch) (out : List Cel) (z : Cel), out <+: l.foldl celStep (out ++ [z])
  | [], out, z => ⟨[z], rfl⟩
  | c :: l, out, z => by
    rw [List.foldl_cons]
    by_cases hz : wid c.2.1 = 0
    · rw [celStep_more _ _ _ hz]; exact cel_keep l out _
    · rw [celStep_new _ _ hz]; exact List.IsPrefix.trans ⟨[z], rfl⟩ (cel_keep l (out ++ [z]) _)
/-- What has come before a character of some width stays. -/
theorem cel_told (l : List Ch) (c : Ch) (r : List Ch) (h : ¬ wid c.2.1 = 0) : celsOf l <+: celsOf (l ++ c :: r) := by
  unfold celsOf
  rw [List.foldl_append, List.foldl_cons, celStep_new _ _ h]
  exact cel_keep r _ _
/-- What waits is a cell of the text. -/
theorem waits_ok {s : ByteArray} {acc rest : List Ch} {pre : List Cel} {y : Cel} (h : acc ++ rest = chars s) (e : celsOf acc = pre ++ [y]) : (y.2.2 = 1 ∨ y.2.2 = 2) ∧ y.1 ≤ y.2.1 ∧ y.2.1 ≤ s.size := by
  have ht : (chars s).take acc.length = acc := by rw [← h]; simp
  have hl : acc.length ≤ (chars s).length := by rw [← h]; simp
  refine ⟨cel_wide acc y (by rw [e]; simp), ?_⟩
  have := celsOf_last s acc.length hl pre y (by rw [ht]; exact e)
  exact this.2
theorem iter_cell {wr : World} {k B : Nat} {s : ByteArray} {pos pos' : Nat} {v : Value} (hit : wr.heap[k]? = some (.stringIter s pos)) (h : wr.cell? ⟨B, 0, none⟩ = some v) : (wr.iterAt k s pos').cell? ⟨B, 0, none⟩ = some v ∧ B ≠ k := by
  have hne : B ≠ k := by
    rintro rfl
    unfold World.cell? at h
    rw [hit] at h
    simp at h
  refine ⟨?_, hne⟩
  have e : (wr.iterAt k s pos').heap[B]? = wr.heap[B]? := Array.getElem?_setIfInBounds_ne (Ne.symm hne)
  unfold World.cell? at h ⊢
  simp only [] at h ⊢
  rw [e]
  exact h
theorem notEmpty {s : ByteArray} (h : 0 < s.size) : s.toList.isEmpty = false := by
  have e : s.toList = s.data.toList := ByteArray.toList_eq s
  rw [e]
  cases hd : s.data.toList with
  | nil => exact absurd (show s.size = 0 by have : s.data.size = 0 := by rw [← Array.length_toList, hd]; rfl
                                            exact this) (by omega)
  | cons _ _ => rfl
theorem cell_lt {w : World} {b o : Nat} {v : Value} (h : w.cell? ⟨b, o, none⟩ = some v) : b < w.heap.size := by
  unfold World.cell? at h
  simp only [] at h
  split at h
  · rename_i e; exact (Array.getElem?_eq_some_iff.1 e).1
  · cases h
theorem cell_more {w : World} {b o : Nat} {v : Value} (h : w.cell? ⟨b, o, none⟩ = some v) (x : Obj) : (w.alloc x).cell? ⟨b, o, none⟩ = some v :=
  (((Below.refl _ w).alloc (Nat.le_refl _) x).cell (p := ⟨b, o, none⟩) (cell_lt h)).trans h
theorem iter_grown (w : World) (k : Nat) (s : ByteArray) (pos : Nat) : w.grownBy (w.iterAt k s pos) (some k) := grownBy_putObj' w k (.stringIter s pos)

set_option maxRecDepth 100000 in
set_option maxHeartbeats 4000000 in
theorem cells1_in (n l B : Nat) (s : ByteArray) (hs : s.size ≤ 16777216) (J Jx : List (SCel s) → World → Prop)
    (hY : ∀ pre x W, J pre W → pre.length < (cells s).length → YieldAt Fence.wide (n - 1) Tryz.prog l #[celA s x.1] W fun e W' =>
      (e = .returned (.bool true) ∧ J (pre ++ [x]) W' ∧ KpS B W W') ∨ (e = .returned (.bool false) ∧ Jx (pre ++ [x]) W'))
    (W : World) (hJ : AbidesFrom W.heap.size J) (hB : W.cell? ⟨B, 0, none⟩ = some (.string s)) (h0 : J [] W) (hn : 2 ≤ n) :
    CallsIn Fence.wide n Tryz.prog 140 #[.func (.yield l) #[] #[], .pointer (some ⟨B, 0, none⟩)] W fun e W' => (∃ v, e = .returned v) ∧
      ((∃ ys : List (SCel s), ys.map (·.1) = cells s ∧ J ys W') ∨ (∃ pre : List (SCel s), pre.map (·.1) <+: cells s ∧ Jx pre W')) := by
  have hfw : Fence.wide.fn 141 := trivial
  have h1n : 1 ≤ n := by omega
  refine callsIn_of_wp Tryz.func140 rfl trivial ?_ rfl
  simp only [Tryz.ntmps140, List.size_toArray, List.length_cons, List.length_nil, Nat.reduceAdd, Nat.reduceSub, Array.replicate_succ, Array.replicate_zero, List.push_toArray, List.append_toArray, List.nil_append, List.cons_append]
  gi_wp2
  gi_loopw [3, 4] (fun a m wr => ∃ (pos fuel : Nat) (acc : List Ch) (pre : List (SCel s)), Waits acc pos (pre.map (·.1)) a m ∧ J pre wr ∧ wr.heap[W.heap.size]? = some (.stringIter s pos) ∧ wr.cell? ⟨B, 0, none⟩ = some (.string s) ∧ acc ++ chs s fuel pos = chars s ∧ s.size ≤ pos + fuel ∧ pos ≤ s.size) (fun _ _ wr => s.size - wr.iterPos W.heap.size)
  case atStart =>
    refine ⟨0, s.size, [], [], .inl ⟨rfl, rfl, rfl, rfl, rfl⟩, ?_, ?_, ?_, rfl, by omega, by omega⟩
    · exact hJ _ _ _ none h0 (World.grownBy_alloc W _ none) (fun r e => by cases e)
    · have := World.iter_heap W s 0
      simpa using this
    · exact cell_more hB _
  case round =>
    obtain ⟨pos, fuel, acc, pre, hwt, hj, hit, hc, hacc, hfu, hps⟩ := hrel
    by_cases hp : pos < s.size
    · have hnx : ∀ ty, (Instr.next (.pointer (some ⟨W.heap.size, 0, none⟩)) true ty).run Tryz.prog wr = _ := fun ty => Lib.run_next_any_at wr W.heap.size s pos ty hit hp
      have hwd := width_pos s pos hp
      have hfit := decode_fits s pos hp
      have hit2 := Lib.iterAt_heap wr W.heap.size s pos (pos + (Utf8.decode s pos).2) hit
      have hc2 := (iter_cell (pos' := pos + (Utf8.decode s pos).2) hit hc).1
      have hj2 := hJ _ _ _ (some W.heap.size) hj (iter_grown wr W.heap.size s (pos + (Utf8.decode s pos).2)) (fun r e => by cases e; exact ⟨Nat.le_refl _, _, hit, rfl⟩)
      obtain ⟨f, rfl⟩ : ∃ f, fuel = f + 1 := ⟨fuel - 1, by omega⟩
      have hacc2 : (acc ++ [(pos, (Utf8.decode s pos).1, (Utf8.decode s pos).2)]) ++ chs s f (pos + (Utf8.decode s pos).2) = chars s := by
        rw [← hacc]; simp [chs, hp]
      have hacc3 : acc ++ (pos, (Utf8.decode s pos).1, (Utf8.decode s pos).2) :: chs s f (pos + (Utf8.decode s pos).2) = chars s := by
        rw [← hacc]; simp [chs, hp]
      have HA2 := Lib.hid hacc2
      have HA3 := Lib.hid hacc3
      have HI2 := Lib.hid hit2
      have HI := Lib.hid hit
      have HJ2 := Lib.hid hj2
      clear hacc hacc2 hacc3 hit hit2 hj hj2 hc
      obtain ⟨c, hcd⟩ : ∃ c : Nat × Nat, Utf8.decode s pos = c := ⟨_, rfl⟩
      rw [hcd] at hnx hwd hfit hc2 HA2 HA3 HI2 HJ2
      clear hcd
      have hmx : max (wid c.1) 1 = if wid c.1 = 0 then 1 else wid c.1 := by have := wid_012 c.1; split <;> omega
      rcases hwt with ⟨rfl, hp0, hpre, rfl, rfl⟩ | ⟨h0p, b, m, hce, rfl, rfl⟩
      · have hi0 : ¬ (0 : Int) < (pos : Int) := by omega
        have HP := Lib.hid hp0
        have HR := Lib.hid hpre
        clear hp0 hpre
        by_cases hz : wid c.1 = 0
        · have t1 : (wid (c.1 : Int) == 0) = true := by simpa using hz
          have HZ := Lib.hid hz
          gi_wp2_with (gi_at_call 141; refine (callsIn_wide.2 (width_q _ _)).mono ?_; rintro e w' ⟨rfl, rfl⟩)
          refine ⟨(fun f h => by cases h), ?_⟩
          gi_wp2
          go_roundw
          case rel => exact ⟨pos + c.2, f, [(pos, c.1, c.2)], pre, .inr ⟨by omega, pos, 1, by rw [HR.out]; simp [celsOf, celStep_nil, celNew, HZ.out], rfl, rfl⟩, HJ2.out, HI2.out, hc2, HA2.out, by omega, hfit⟩
          case measure => simp only [World.iterPos, HI2.out, HI.out]; omega
        · have t1 : (wid (c.1 : Int) == 0) = false := by simpa using hz
          have hw1 : 1 ≤ wid c.1 := by have := wid_012 c.1; omega
          have HZ := Lib.hid hz
          clear hz
          gi_wp2_with (gi_at_call 141; refine (callsIn_wide.2 (width_q _ _)).mono ?_; rintro e w' ⟨rfl, rfl⟩)
          refine ⟨(fun f h => by cases h), ?_⟩
          gi_wp2
          go_roundw
          case rel => exact ⟨pos + c.2, f, [(pos, c.1, c.2)], pre, .inr ⟨by omega, pos, wid c.1, by rw [HR.out]; simp [celsOf, celStep_nil, celNew, HZ.out], rfl, rfl⟩, HJ2.out, HI2.out, hc2, HA2.out, by omega, hfit⟩
          case measure => simp only [World.iterPos, HI2.out, HI.out]; omega
      · have hi0 : (0 : Int) < (pos : Int) := by omega
        have HE := Lib.hid hce
        clear hce
        have hok := waits_ok HA3.out HE.out
        by_cases hz : wid c.1 = 0
        · have t1 : (wid (c.1 : Int) == 0) = true := by simpa using hz
          have HZ := Lib.hid hz
          clear hz
          gi_wp2_with (gi_at_call 141; refine (callsIn_wide.2 (width_q _ _)).mono ?_; rintro e w' ⟨rfl, rfl⟩)
          go_roundw
          case rel => exact ⟨pos + c.2, f, acc ++ [(pos, c.1, c.2)], pre, .inr ⟨by omega, b, m, by unfold celsOf; rw [List.foldl_append]; show celStep (celsOf acc) _ = _; rw [HE.out, celStep_more _ _ _ HZ.out], rfl, rfl⟩, HJ2.out, HI2.out, hc2, HA2.out, by omega, hfit⟩
          case measure => simp only [World.iterPos, HI2.out, HI.out]; omega
        · have t1 : (wid (c.1 : Int) == 0) = false := by simpa using hz
          have hw1 : 1 ≤ wid c.1 := by have := wid_012 c.1; omega
          have hpf : pre.map (·.1) ++ [(b, pos, m)] <+: cells s := by
            have := cel_told acc (pos, c.1, c.2) (chs s f (pos + c.2)) hz
            rw [HA3.out, HE.out] at this
            exact this
          have hlen : pre.length < (cells s).length := by have := hpf.length_le; simp at this; omega
          have HZ := Lib.hid hz
          have HPF := Lib.hid hpf
          obtain ⟨fn, tmps, assign, body, hy, hR⟩ := hY pre ⟨(b, pos, m), hok⟩ _ HJ2.out hlen
          simp only [celA] at hy
          have b1 : (0 : Int) ≤ b := by omega
          have b2 : (b : Int) ≤ pos := by have := hok.2.1; simp at this; omega
          have b3 : (pos : Int) ≤ s.size := by omega
          clear hz hpf hlen hJ hY
          gi_wp2_with (gi_at_call 141; refine (callsIn_wide.2 (width_q _ _)).mono ?_; rintro e w' ⟨rfl, rfl⟩)
          refine hR.mono ?_
          rintro e W3 (⟨rfl, hJ3, hk3⟩ | ⟨rfl, hJx3⟩)
          · have hc3 := hk3.2 _ hc2
            have hit3 := hk3.1.same _ _ HI2.out rfl
            have HJ3 := Lib.hid hJ3
            have HI3 := Lib.hid hit3
            clear hJ3 hit3 hk3 hc2
            gi_wp2
            go_roundw
            case rel => exact ⟨pos + c.2, f, acc ++ [(pos, c.1, c.2)], pre ++ [⟨(b, pos, m), hok⟩], .inr ⟨by omega, pos, wid c.1, by unfold celsOf; rw [List.foldl_append]; show celStep (celsOf acc) _ = _; rw [HE.out, celStep_new _ _ HZ.out]; simp [celNew, HZ.out], rfl, rfl⟩, HJ3.out, HI3.out, hc3, HA2.out, by omega, hfit⟩
            case measure => simp only [World.iterPos, HI3.out, HI.out]; omega
          · gi_wp2
            refine bodyPost_ret (results_none rfl _ _ _) rfl ?_
            exact ⟨⟨_, rfl⟩, .inr ⟨pre ++ [⟨(b, pos, m), hok⟩], by simpa using HPF.out, hJx3⟩⟩
    · have hnx : ∀ ty, (Instr.next (.pointer (some ⟨W.heap.size, 0, none⟩)) true ty).run Tryz.prog wr = _ := fun ty => Lib.run_next_end_at wr W.heap.size s pos ty hit hp
      obtain rfl : pos = s.size := by omega
      rw [chs_end s fuel _ hp, List.append_nil] at hacc
      subst hacc
      clear hit hJ
      rcases hwt with ⟨hac, hp0, hpre, rfl, rfl⟩ | ⟨h0p, b, m, hce, rfl, rfl⟩
      · have t1 : s.toList = [] := by rw [ByteArray.toList_eq]; exact List.eq_nil_of_length_eq_zero (by simpa using hp0)
        have hd : pre.map (·.1) = cells s := by unfold cells; rw [hac, hpre]; rfl
        have HD := Lib.hid hd
        clear hd hac hp0 hpre
        gi_wp2
        go_end0
        exact ⟨⟨_, rfl⟩, .inl ⟨pre, HD.out, hj⟩⟩
      · have hok := waits_ok (rest := []) (List.append_nil _) hce
        have hd : pre.map (·.1) ++ [(b, s.size, m)] = cells s := hce.symm
        have hlen : pre.length < (cells s).length := by rw [← hd]; simp
        have HD := Lib.hid hd
        have t1 := notEmpty h0p
        obtain ⟨fn, tmps, assign, body, hy, hR⟩ := hY pre ⟨(b, s.size, m), hok⟩ _ hj hlen
        simp only [celA] at hy
        have b1 : (0 : Int) ≤ b := by omega
        have b2 : (b : Int) ≤ s.size := by have := hok.2.1; simp at this; omega
        clear hd hlen hY hce hj
        gi_wp2
        refine hR.mono ?_
        rintro e W3 (⟨rfl, hJ3, hk3⟩ | ⟨rfl, hJx3⟩)
        · clear hk3
          gi_wp2
          go_end0
          exact ⟨⟨_, rfl⟩, .inl ⟨pre ++ [⟨(b, s.size, m), hok⟩], by simpa using HD.out, hJ3⟩⟩
        · gi_wp2
          go_end0
          exact ⟨⟨_, rfl⟩, .inr ⟨pre ++ [⟨(b, s.size, m), hok⟩], by rw [← HD.out]; simp, hJx3⟩⟩
end
section
open Go.RowKit Go.Shelf

attribute [local go_sem] Oper.semAt_some

/-- A call answers v; of what was there nothing has changed. -/
def Says (v : Value) (w : World) (e : Ending) (w' : World) : Prop := e = .returned v ∧ Below w.heap.size w w'
/-- A call answers a new list whose cells hold xs. -/
def RowIs (T : TypeId) (size n : Nat) (xs : List Value) (w : World) (e : Ending) (w' : World) : Prop :=
  ∃ v : Value, e = .returned v ∧ w'.ownsRow w.heap.size T size v n xs ∧ Below w.heap.size w w'

theorem KpS.set {B : Nat} (W : World) (b o : Nat) (v : Value) (h : B ≠ b) : KpS B W (W.setCell ⟨b, o, none⟩ v) := by
  refine ⟨KeepsWalks.setCell _ _ _, fun u e => ?_⟩
  have hb : (W.setCell ⟨b, o, none⟩ v).heap[B]? = W.heap[B]? := Below.heap_setCell _ _ _ B h
  unfold World.cell? at e ⊢
  simp only [] at e ⊢
  rw [hb]
  exact e
theorem KpS.alloc {B : Nat} (W : World) (o : Obj) : KpS B W (W.alloc o) := ⟨KeepsWalks.alloc _ _, fun _ e => cell_more e _⟩
theorem KpS.grown {B : Nat} {W W' : World} {row : Option Nat} (hg : W.grownBy W' row) (hrow : ∀ (j : Nat) (o : Obj), row = some j → W.heap[j]? = some o → o.isWalk = false) (h : some B ≠ row) : KpS B W W' := by
  refine ⟨KeepsWalks.of_grownBy hg hrow, fun u e => ?_⟩
  have hb : W'.heap[B]? = W.heap[B]? := hg.block B (cell_lt e) h
  unfold World.cell? at e ⊢
  simp only [] at e ⊢
  rw [hb]
  exact e

/-- The function value over one new block that holds the text. -/
theorem cells_in (n : Nat) (s : ByteArray) (w : World) :
    CallsIn Fence.wide n Tryz.prog 114 #[.string s] w fun e w' => e = .returned (.func (.func 140) #[] #[.pointer (some ⟨w.heap.size, 0, none⟩)]) ∧ w' = w.alloc (.cells #[.string s] 9) := by
  refine callsIn_of_wp Tryz.func114 rfl trivial ?_ rfl
  simp only [Tryz.ntmps114, List.size_toArray, List.length_cons, List.length_nil, Nat.reduceAdd, Nat.reduceSub, Array.replicate_succ, Array.replicate_zero, List.push_toArray, List.append_toArray, List.nil_append, List.cons_append]
  gi_wp2
  go_ret
  exact ⟨rfl, rfl⟩

theorem cells_stops (n : Nat) (hn : 2 ≤ n) (B : Nat) (s : ByteArray) (hs : s.size ≤ 16777216) (w : World) (hB : w.cell? ⟨B, 0, none⟩ = some (.string s)) :
    SeqStopsK Fence.wide n Tryz.prog 140 #[.pointer (some ⟨B, 0, none⟩)] (fun x : SCel s => #[celA s x.1]) (KpS B) (fun ys => ys.map (·.1) = cells s) (fun pre => pre.map (·.1) <+: cells s) (cells s).length w := fun l J Jx W hW hJ _ hY h0 =>
  cells1_in n l B s hs J Jx hY W hJ ((hW.cell (p := ⟨B, 0, none⟩) (cell_lt hB)).trans hB) h0 hn

end
section
open Go.RowKit Go.Shelf

attribute [local go_sem] Oper.semAt_some

theorem infoCelP : (Tryz.prog.info? 161).map (fun i => (i.zero, i.size, i.bytes)) = some (some (.agg #[.string .empty, .int .i64 0, .int .i64 0]), 3, 32) := by kernel_rfl
theorem own_noWalk {W : World} {base : Nat} {e : TypeId} {size : Nat} {v : Value} {n : Nat} {xs : List Value} (h : W.ownsRow base e size v n xs) : ∀ (j : Nat) (o : Obj), v.ownBlock = some j → W.heap[j]? = some o → o.isWalk = false := by
  intro j o ej hj
  rcases h.2 with ⟨rfl, _⟩ | ⟨g, cap, cur, rfl, _, hgb, _⟩
  · simp [Value.ownBlock] at ej
  · obtain rfl : g = j := by simpa [Value.ownBlock] using ej
    rw [hgb] at hj; cases hj; rfl
end
section
open Go.RowKit Go.Maps

theorem find_at {p : Ch → Bool} : ∀ {l : List Ch} {k : Nat} {c : Ch}, l[k]? = some c → p c = true → (∀ j d, j < k → l[j]? = some d → p d = false) → l.find? p = some c
  | [], k, c, h, _, _ => by simp at h
  | a :: l, 0, c, h, hp, _ => by simp at h; subst h; simp [hp]
  | a :: l, k + 1, c, h, hp, hn => by
    have ha : p a = false := hn 0 a (by omega) rfl
    rw [List.find?_cons, ha]
    exact find_at (by simpa using h) hp fun j d hj hd => hn (j + 1) d (by omega) (by simpa using hd)
theorem find_no {p : Ch → Bool} {l : List Ch} (hn : ∀ j d, j < l.length → l[j]? = some d → p d = false) : l.find? p = none := by
  rw [List.find?_eq_none]
  intro x hx
  obtain ⟨j, hj, e⟩ := List.getElem_of_mem hx
  have := hn j x hj (by rw [List.getElem?_eq_getElem hj, e])
  simp [this]
def placeOf (o : Option Ch) : Int := match o with | some c => c.1 | none => 0
def unplain (c : Ch) : Bool := badB c || ctl c.2.1
/-- What Good and Plain answer, by what is looked for. -/
def Finds (p : Ch → Bool) (s : ByteArray) (w : World) (e : Ending) (w' : World) : Prop :=
  e = .returned (.tuple #[.int .i64 (placeOf ((chars s).find? p)), .bool ((chars s).find? p).isNone]) ∧ Below w.heap.size w w'
theorem finds_at {p : Ch → Bool} {s : ByteArray} {w w' : World} {k : Nat} {c : Ch} (h : (chars s)[k]? = some c) (hp : p c = true) (hn : ∀ j d, j < k → (chars s)[j]? = some d → p d = false) (hb : Below w.heap.size w w') :
    Finds p s w (.returned (.tuple #[.int .i64 c.1, .bool false])) w' := by
  unfold Finds
  rw [find_at h hp hn]
  exact ⟨rfl, hb⟩
theorem finds_no {p : Ch → Bool} {s : ByteArray} {w w' : World} (hn : ∀ j d, j < (chars s).length → (chars s)[j]? = some d → p d = false) (hb : Below w.heap.size w w') :
    Finds p s w (.returned (.tuple #[.int .i64 0, .bool true])) w' := by
  unfold Finds
  rw [find_no hn]
  exact ⟨rfl, hb⟩

set_option maxRecDepth 100000 in
set_option maxHeartbeats 1000000 in
theorem plain_ref (s : ByteArray) (w : World) (hs : s.size ≤ 16777216) :
    Calls Tryz.prog 21 #[.string s] w (Finds unplain s w) := by
  have HS := Lib.hid hs
  have hl : (chars s).length ≤ 16777216 := Nat.le_trans (chars_len s) hs
  clear hs
  go_enter Tryz.func21, Tryz.ntmps21
  go_wp2_with (go_at_call 30; refine (chars_ref s _ HS.out).mono ?_; rintro e w1 ⟨v, xs, rfl, hown, hx, hbw⟩; have HW := Lib.hid hown; have HX := Lib.hid hx; have HB := Lib.hid hbw; clear hown hx hbw)
  go_loop [5] (fun i => ∃ k : Nat, i = .int .i64 k ∧ k ≤ (chars s).length ∧ ∀ j d, j < k → (chars s)[j]? = some d → unplain d = false) (fun i => (chars s).length - (intOf i).toNat)
  case atStart => exact ⟨0, rfl, Nat.zero_le _, fun j d h => absurd h (by omega)⟩
  case round =>
    obtain ⟨k, rfl, hk, hn⟩ := hrel
    have HN := Lib.hid hn
    clear hn
    by_cases hlt : k < (chars s).length
    · obtain ⟨g, cap, rfl, hg, hgl⟩ := World.ownsRow.form HW.out (by omega)
      obtain ⟨c, hc⟩ : ∃ c, (chars s)[k]? = some c := ⟨_, List.getElem?_eq_getElem hlt⟩
      obtain ⟨h0, h1, h2⟩ := HX.out.2 k c hc
      have hxl := HX.out.1
      have g0 := (World.ownsRow.cellAt HW.out (k * 4) (by omega)).trans h0
      have g1 := (World.ownsRow.cellAt HW.out (k * 4 + 1) (by omega)).trans h1
      have g3 := (World.ownsRow.cellAt HW.out (k * 4 + 3) (by omega)).trans (h2 hlt).2
      have HC := Lib.hid hc
      clear h0 h1 h2 hxl hc
      have next : unplain c = false → ∀ j d, j < k + 1 → (chars s)[j]? = some d → unplain d = false := by
        intro hb j d hj hd
        by_cases e : j = k
        · subst e; rw [HC.out] at hd; cases hd; exact hb
        · exact HN.out j d (by omega) hd
      have HT := Lib.hid next
      clear next
      by_cases hb : badB c = true
      · have hu : unplain c = true := by simp [unplain, hb]
        have HU := Lib.hid hu
        clear hu
        go_wp2_with fail
        go_ret2
        exact finds_at HC.out HU.out HN.out HB.out
      · have hb' : badB c = false := by simpa using hb
        clear hb
        by_cases hq : ctl c.2.1 = true
        · have hu : unplain c = true := by simp [unplain, hq]
          have HU := Lib.hid hu
          clear hu
          go_wp2_with (go_at_call 39; refine (control_ref _ _).mono ?_; rintro e w2 ⟨rfl, rfl⟩)
          go_ret2
          exact finds_at HC.out HU.out HN.out HB.out
        · have hq' : ctl c.2.1 = false := by simpa using hq
          clear hq
          have hu : unplain c = false := by simp [unplain, hb', hq']
          have HU := Lib.hid hu
          clear hu
          go_wp2_with (go_at_call 39; refine (control_ref _ _).mono ?_; rintro e w2 ⟨rfl, rfl⟩)
          go_round
          case rel => exact ⟨k + 1, by go_num, by omega, HT.out HU.out⟩
          case measure => simp [intOf]; omega
    · obtain rfl : k = (chars s).length := by omega
      rcases HW.out.2 with ⟨rfl, h0⟩ | ⟨g, cap, cur, rfl, _⟩
      · have hz : ((chars s).length : Int) ≤ 0 := by omega
        clear h0
        go_wp2_with fail
        go_ret2
        exact finds_no HN.out HB.out
      · go_wp2_with fail
        go_ret2
        exact finds_no HN.out HB.out
end
end Go.Proofs.YtjohhahfpgfjdaaGreatDoor
end
