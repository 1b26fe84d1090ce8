/- What is proved: LayoutHits holds of all lines, layouts and places (the statement's second form). Its condition: what comes in is of bulk at most 1048576. Part 9: its texts. -/
import Derived.Test.YtalomeialegmiaaGreatDoorKLayoutHits3
import Derived.Test.YtalomeialegmiaaGreatDoorProg
import Derived.WalkKit
import Derived.Lib.Hide
import Derived.IntWalk
import Derived.Outline
import Derived.WalkLawsBesides
import Derived.Laws.RangeAny
import GoSem.Core.Utf8
import Derived.Lib.OthersKept
import Derived.WalkSmall
import Derived.Deep.AppendLies
import Derived.Laws.OwnMore
import Derived.Deep.Onto
import Derived.Deep.DeepMust
import Derived.Deep.QuietTactic
import Derived.BigQuiet
import Derived.Deep.RegionLaw
import Derived.RangeFuncNested
import Derived.RangeFuncBound
import Derived.RangeFuncCalls
import Derived.RangeFuncLeaves
import Derived.RangeFuncBox
import Derived.Shelf.Abstract
import Derived.Shelf.RegionOpen
import Derived.OwnWalkIn
import Derived.TacticsInMore
import Derived.LoopNIn
import Derived.LoopIn
import Derived.Maps.AppendAt
import Derived.Lib.FrozenHead2
import Derived.Lib.RuneBytes
import Derived.Laws.Cover4
section
namespace Go.Proofs.YtalomeialegmiaaGreatDoor
section
open Go.RowKit

def inB (r lo hi : Int) : Bool := decide (lo ≤ r ∧ r ≤ hi)
def ctl (r : Int) : Bool := inB r 0 31 || inB r 127 159
def wid (r : Int) : Int :=
  if ctl r || inB r 768 879 || inB r 8203 8205 || inB r 65024 65039 then 0
  else if inB r 4352 4447 || inB r 11904 12350 || inB r 12353 13311 || inB r 13312 19903 || inB r 19968 42191 || inB r 44032 55203 then 2
  else if inB r 63744 64255 || inB r 65072 65135 || inB r 65280 65376 || inB r 65504 65510 || inB r 127744 128591 || inB r 129280 129535 || inB r 131072 262141 then 2
  else 1
theorem ret_bool {a b : Bool} (h : a = b) : Ending.returned (.bool a) = Ending.returned (.bool b) := by rw [h]
theorem ret_int {k : IntKind} {a b : Int} (h : a = b) : Ending.returned (.int k a) = Ending.returned (.int k b) := by rw [h]

end
section
open Go.RowKit

end
section
open Go.RowKit

theorem within_pro (r lo hi : Int) (w : World) :
    Calls Tryz.prog 170 #[.int .i32 r, .int .i32 lo, .int .i32 hi] w fun e w' => e = .returned (.bool (inB r lo hi)) ∧ w = w' := by
  go_enter Tryz.func170, Tryz.ntmps170
  go_wp2
  all_goals go_ret
  all_goals (refine ⟨ret_bool ?_, rfl⟩; rw [Bool.eq_iff_iff]; simp [inB]; try omega)

set_option maxRecDepth 100000 in
set_option maxHeartbeats 2000000 in
theorem width_q (r : Int) (w : World) :
    Calls Tryz.prog 175 #[.int .i32 r] w fun e w' => e = .returned (.int .i64 (wid r)) ∧ w = w' := by
  go_enter Tryz.func175, Tryz.ntmps175
  go_wp2_with (first | (go_at_call 170; refine (within_pro _ _ _ _).mono ?_; rintro e w' ⟨rfl, rfl⟩))
  all_goals go_ret
  all_goals (refine ⟨ret_int ?_, rfl⟩; simp [wid, ctl, *])

end
section
open Go

theorem decode_fits (s : ByteArray) (pos : Nat) (h : pos < s.size) : pos + (Utf8.decode s pos).2 ≤ s.size := by
  simp only [Utf8.decode]
  repeat' split
  all_goals simp_all
  all_goals omega
theorem width_pos (s : ByteArray) (pos : Nat) (h : pos < s.size) : 1 ≤ (Utf8.decode s pos).2 := by
  by_cases ha : (s[pos]'h).toNat < 128
  · rw [decode_ascii s pos h ha]
    exact Nat.le_refl _
  · exact (decode_high s pos h (by omega)).2

/-- A character: its place, its code point, its bytes. -/
abbrev Ch := Nat × Nat × Nat
def chs (s : ByteArray) : Nat → Nat → List Ch
  | 0, _ => []
  | fuel + 1, pos => if pos < s.size then (pos, (Utf8.decode s pos).1, (Utf8.decode s pos).2) :: chs s fuel (pos + (Utf8.decode s pos).2) else []
def chars (s : ByteArray) : List Ch := chs s s.size 0
def badB (c : Ch) : Bool := c.2.1 == 65533 && c.2.2 == 1

theorem chs_end (s : ByteArray) (fuel pos : Nat) (h : ¬ pos < s.size) : chs s fuel pos = [] := by
  cases fuel with
  | zero => rfl
  | succ f => simp [chs, h]
theorem chs_head (s : ByteArray) (fuel pos : Nat) (h : 0 < (chs s fuel pos).length) : ((chs s fuel pos)[0]'h).1 = pos := by
  cases fuel with
  | zero => simp [chs] at h
  | succ f =>
    by_cases hp : pos < s.size
    · simp [chs, hp]
    · simp [chs, hp] at h
/-- Each character ends where the next one begins, the last one at the text's end. -/
theorem chs_ends (s : ByteArray) : ∀ (fuel pos : Nat), s.size ≤ pos + fuel → pos ≤ s.size → ∀ (i : Nat) (h : i < (chs s fuel pos).length),
    ((chs s fuel pos)[i]).1 + ((chs s fuel pos)[i]).2.2 = (if h' : i + 1 < (chs s fuel pos).length then ((chs s fuel pos)[i + 1]).1 else s.size)
  | 0, pos, _, _, i, h => by simp [chs] at h
  | fuel + 1, pos, hf, hps, i, h => by
    by_cases hp : pos < s.size
    · have hw := width_pos s pos hp
      have hfit := decode_fits s pos hp
      have ih := chs_ends s fuel (pos + (Utf8.decode s pos).2) (by omega) (by omega)
      simp only [chs, hp, if_true] at h ⊢
      cases i with
      | zero =>
        by_cases hl : 0 < (chs s fuel (pos + (Utf8.decode s pos).2)).length
        · have := chs_head s fuel _ hl
          simp [hl, this]
        · have hnil : chs s fuel (pos + (Utf8.decode s pos).2) = [] := List.eq_nil_of_length_eq_zero (by omega)
          have hend : ¬ (pos + (Utf8.decode s pos).2) < s.size := by
            intro hlt
            cases fuel with
            | zero => omega
            | succ f => simp [chs, hlt] at hnil
          simp [hnil]
          omega
      | succ i =>
        have := ih i (by simpa using h)
        simpa using this
    · simp [chs, hp] at h
theorem chars_ends (s : ByteArray) (i : Nat) (h : i < (chars s).length) :
    ((chars s)[i]).1 + ((chars s)[i]).2.2 = (if h' : i + 1 < (chars s).length then ((chars s)[i + 1]).1 else s.size) :=
  chs_ends s s.size 0 (by omega) (by omega) i h
/-- Each character is what is decoded at its place. -/
theorem chs_at (s : ByteArray) : ∀ (fuel pos : Nat) (c : Ch), c ∈ chs s fuel pos → pos ≤ c.1 ∧ c.1 < s.size ∧ c.2 = Utf8.decode s c.1
  | 0, pos, c, h => by simp [chs] at h
  | fuel + 1, pos, c, h => by
    by_cases hp : pos < s.size
    · simp only [chs, hp, if_true, List.mem_cons] at h
      rcases h with rfl | h
      · exact ⟨by simp, hp, rfl⟩
      · obtain ⟨h1, h2, h3⟩ := chs_at s fuel _ c h
        exact ⟨by omega, h2, h3⟩
    · simp [chs, hp] at h
theorem chars_at (s : ByteArray) (c : Ch) (h : c ∈ chars s) : c.1 < s.size ∧ c.2 = Utf8.decode s c.1 := (chs_at s _ _ c h).2
theorem chars_width (s : ByteArray) (c : Ch) (h : c ∈ chars s) : 1 ≤ c.2.2 ∧ c.1 + c.2.2 ≤ s.size := by
  obtain ⟨h1, h2⟩ := chars_at s c h
  rw [h2]; exact ⟨width_pos s _ h1, decode_fits s _ h1⟩
theorem chs_len (s : ByteArray) : ∀ (fuel pos : Nat), pos ≤ s.size → (chs s fuel pos).length + pos ≤ s.size
  | 0, pos, h => by simp [chs]; exact h
  | fuel + 1, pos, h => by
    by_cases hp : pos < s.size
    · have hw := width_pos s pos hp
      have hfit := decode_fits s pos hp
      have := chs_len s fuel (pos + (Utf8.decode s pos).2) hfit
      simp [chs, hp]; omega
    · simp [chs, hp]; exact h
theorem chars_len (s : ByteArray) : (chars s).length ≤ s.size := by have := chs_len s s.size 0 (by omega); simpa [chars] using this

end
section
open Go.RowKit Go.Maps

theorem cells_new (w : World) (cs : Array Value) (t : TypeId) (j : Nat) (u : Value) (h : cs.toList[j]? = some u) : (w.alloc (.cells cs t)).cell? ((⟨w.heap.size, 0, none⟩ : Addr).add j) = some u := by
  have h' : cs[j]? = some u := by simpa using h
  by_cases hj : j = 0
  · subst hj; simp [Addr.add, h']
  · simp [Addr.add, hj, h']

theorem own_below {w w' : World} {base : Nat} {e : TypeId} {size : Nat} {v : Value} {n : Nat} {xs : List Value} (h : w.ownsRow base e size v n xs) (hb : Below w.heap.size w w') : w'.ownsRow base e size v n xs := by
  refine ⟨h.1, ?_⟩
  rcases h.2 with h0 | ⟨g, cap, cur, h1, h2, h3, h4⟩
  · exact .inl h0
  · exact .inr ⟨g, cap, cur, h1, h2, (hb.block g (Array.getElem?_eq_some_iff.1 h3).1).trans h3, h4⟩
end
section
open Go

/-- A cell: its place, where it ends, how wide it is. -/
abbrev Cel := Nat × Nat × Int
def celNew (c : Ch) : Cel := (c.1, c.1 + c.2.2, if wid c.2.1 = 0 then 1 else wid c.2.1)
def celStep (out : List Cel) (c : Ch) : List Cel :=
  match out.getLast? with
  | some y => if wid c.2.1 = 0 then out.dropLast ++ [(y.1, c.1 + c.2.2, y.2.2)] else out ++ [celNew c]
  | none => [celNew c]
def celsOf (l : List Ch) : List Cel := l.foldl celStep []
def cells (s : ByteArray) : List Cel := celsOf (chars s)
theorem celStep_nil (c : Ch) : celStep [] c = [celNew c] := rfl
theorem celStep_more (init : List Cel) (y : Cel) (c : Ch) (h : wid c.2.1 = 0) : celStep (init ++ [y]) c = init ++ [(y.1, c.1 + c.2.2, y.2.2)] := by
  simp [celStep, h]
theorem celStep_new (out : List Cel) (c : Ch) (h : ¬ wid c.2.1 = 0) : celStep out c = out ++ [celNew c] := by
  unfold celStep
  cases e : out.getLast? with
  | none => rw [List.getLast?_eq_none_iff] at e; subst e; rfl
  | some y => simp [h]
theorem celsOf_take {l : List Ch} {k : Nat} {c : Ch} (h : l[k]? = some c) : celsOf (l.take (k + 1)) = celStep (celsOf (l.take k)) c := by
  have hk := (List.getElem?_eq_some_iff.1 h)
  obtain ⟨hk, e⟩ := hk
  unfold celsOf
  rw [List.take_succ_eq_append_getElem hk, List.foldl_append, e]
  rfl
theorem celStep_len (out : List Cel) (c : Ch) : (celStep out c).length ≤ out.length + 1 := by
  unfold celStep
  cases e : out.getLast? with
  | none => simp
  | some y =>
    simp only
    split <;> simp
theorem celsOf_len (l : List Ch) (k : Nat) : (celsOf (l.take k)).length ≤ k := by
  induction k with
  | zero => simp [celsOf]
  | succ k ih =>
    by_cases h : k < l.length
    · rw [celsOf_take (List.getElem?_eq_getElem h)]
      exact Nat.le_trans (celStep_len _ _) (by omega)
    · rw [List.take_of_length_le (by omega)]
      rw [List.take_of_length_le (by omega)] at ih
      omega
/-- The last cell ends where the next character begins. -/
theorem celsOf_last (s : ByteArray) (k : Nat) (hk : k ≤ (chars s).length) (init : List Cel) (y : Cel) (e : celsOf ((chars s).take k) = init ++ [y]) :
    y.2.1 = (if h : k < (chars s).length then ((chars s)[k]).1 else s.size) ∧ y.1 ≤ y.2.1 ∧ y.2.1 ≤ s.size := by
  induction k generalizing init y with
  | zero => simp [celsOf] at e
  | succ k ih =>
    have hlt : k < (chars s).length := by omega
    have hc : (chars s)[k]? = some ((chars s)[k]) := List.getElem?_eq_getElem hlt
    have hend := chars_ends s k hlt
    have hw := chars_width s _ (List.mem_of_getElem? hc)
    rw [celsOf_take hc] at e
    rcases List.eq_nil_or_concat (celsOf ((chars s).take k)) with h0 | ⟨i0, y0, h0⟩
    · rw [h0, celStep_nil] at e
      obtain ⟨rfl, rfl⟩ : init = [] ∧ y = celNew ((chars s)[k]) := by
        have := congrArg List.length e
        simp at this
        subst this
        simpa using e.symm
      simp only [celNew]
      exact ⟨hend, by omega, by omega⟩
    · rw [List.concat_eq_append] at h0
      by_cases hz : wid ((chars s)[k]).2.1 = 0
      · rw [h0, celStep_more _ _ _ hz] at e
        obtain ⟨_, e2⟩ := List.append_inj' e rfl
        obtain ⟨h1, h2, h3⟩ := ih (by omega) i0 y0 h0
        rw [dif_pos hlt] at h1
        simp at e2
        subst e2
        exact ⟨hend, by simp; omega, by simp; omega⟩
      · rw [celStep_new _ _ hz] at e
        obtain ⟨_, e2⟩ := List.append_inj' e rfl
        simp [celNew] at e2
        subst e2
        exact ⟨hend, by simp, by simp; omega⟩
theorem wid_012 (r : Int) : wid r = 0 ∨ wid r = 1 ∨ wid r = 2 := by
  unfold wid
  repeat' split
  all_goals simp
theorem cel_wide (l : List Ch) : ∀ y ∈ celsOf l, y.2.2 = 1 ∨ y.2.2 = 2 := by
  have key : ∀ (l : List Ch) (out : List Cel), (∀ y ∈ out, y.2.2 = 1 ∨ y.2.2 = 2) → ∀ y ∈ l.foldl celStep out, y.2.2 = 1 ∨ y.2.2 = 2 := by
    intro l
    induction l with
    | nil => intro out h; exact h
    | cons c l ih =>
      intro out h
      apply ih
      have hn : (celNew c).2.2 = 1 ∨ (celNew c).2.2 = 2 := by
        have := wid_012 c.2.1
        simp only [celNew]
        split <;> omega
      rcases List.eq_nil_or_concat out with h0 | ⟨i0, y0, h0⟩
      · subst h0
        intro y hy
        rw [celStep_nil] at hy
        simp at hy
        subst hy; exact hn
      · rw [List.concat_eq_append] at h0
        subst h0
        intro y hy
        by_cases hz : wid c.2.1 = 0
        · rw [celStep_more _ _ _ hz] at hy
          simp only [List.mem_append, List.mem_singleton] at hy
          rcases hy with hy | rfl
          · exact h y (by simp [hy])
          · exact h y0 (by simp)
        · rw [celStep_new _ _ hz] at hy
          simp only [List.mem_append, List.mem_singleton] at hy
          rcases hy with hy | rfl
          · exact h y (by simpa using hy)
          · exact hn
  exact key l [] (by simp)
/-- How wide a list of cells is. -/
def sumW (l : List Cel) : Int := (l.map (·.2.2)).sum
/-- What three cells of memory hold of a cell. -/
def celV (s : ByteArray) (y : Cel) : List Value := [.string (s.extract y.1 y.2.1), .int .i64 y.1, .int .i64 y.2.2]
def celsV (s : ByteArray) (l : List Cel) : List Value := l.flatMap (celV s)
theorem celsV_snoc (s : ByteArray) (l : List Cel) (y : Cel) : celsV s (l ++ [y]) = celsV s l ++ celV s y := by simp [celsV]
theorem celV_one (s : ByteArray) (y : Cel) : ∀ u ∈ celV s y, u.oneCell' = true := by
  intro u hu; simp [celV] at hu; rcases hu with rfl | rfl | rfl <;> rfl
theorem celsV_get (s : ByteArray) : ∀ (l : List Cel) (i : Nat) (y : Cel), l[i]? = some y →
    (celsV s l)[i * 3]? = some (.string (s.extract y.1 y.2.1)) ∧ (celsV s l)[i * 3 + 1]? = some (.int .i64 y.1) ∧ (celsV s l)[i * 3 + 2]? = some (.int .i64 y.2.2)
  | [], i, y, h => by simp at h
  | a :: l, 0, y, h => by simp at h; subst h; simp [celsV, celV]
  | a :: l, i + 1, y, h => by
    have ih := celsV_get s l i y (by simpa using h)
    have e : celsV s (a :: l) = celV s a ++ celsV s l := by simp [celsV]
    have hl : (celV s a).length = 3 := rfl
    rw [e, List.getElem?_append_right (by omega), List.getElem?_append_right (by omega), List.getElem?_append_right (by omega), hl, show (i + 1) * 3 - 3 = i * 3 by omega, show (i + 1) * 3 + 1 - 3 = i * 3 + 1 by omega, show (i + 1) * 3 + 2 - 3 = i * 3 + 2 by omega]
    exact ih
end
section
open Go.RowKit Go.Maps

end
section
open Go.RowKit Go.Maps

theorem cells_len (s : ByteArray) : (cells s).length ≤ s.size := by
  have h := celsOf_len (chars s) (chars s).length
  rw [List.take_length] at h
  exact Nat.le_trans h (chars_len s)
/-- How wide a text is. -/
def wide (s : ByteArray) : Int := sumW (cells s)

end
section
open Go.RowKit Go.Maps

end
section
open Go.RowKit Go.Shelf

attribute [local go_sem] Oper.semAt_some

/-- A cell of the text s, with what a loop over cells needs of it. -/
abbrev SCel (s : ByteArray) := { y : Cel // (y.2.2 = 1 ∨ y.2.2 = 2) ∧ y.1 ≤ y.2.1 ∧ y.2.1 ≤ s.size }
def celA (s : ByteArray) (y : Cel) : Value := .agg #[.string (s.extract y.1 y.2.1), .int .i64 y.1, .int .i64 y.2.2]
/-- What a round of a loop over cells keeps: the walks that are under way, and the variable that holds the text. -/
def KpS (B : Nat) (W W' : World) : Prop := KeepsWalks W W' ∧ ∀ v, W.cell? ⟨B, 0, none⟩ = some v → W'.cell? ⟨B, 0, none⟩ = some v
theorem KpS.t {B : Nat} {X Y Z : World} (h : KpS B X Y) (k : KpS B Y Z) : KpS B X Z := ⟨h.1.trans k.1, fun v e => k.2 v (h.2 v e)⟩
theorem KpS.put {B : Nat} (W : World) (l : Nat) (o o' : Obj) (h : W.heap[l]? = some o) (hc : o.isCells = false) (hw : o.isWalk = false) : KpS B W (W.putObj l o') := by
  refine ⟨KeepsWalks.putObj _ h hw, fun v e => ?_⟩
  have hne : B ≠ l := by
    rintro rfl
    unfold World.cell? at e
    rw [h] at e
    cases o <;> simp_all [Obj.isCells]
  unfold World.cell? at e ⊢
  simp only [] at e ⊢
  rw [World.putObj_heap_other hne]
  exact e
/-- Cells that have been told, and the one that waits. -/
def Waits (acc : List Ch) (pos : Nat) (pre : List Cel) (a w : Value) : Prop :=
  (acc = [] ∧ pos = 0 ∧ pre = [] ∧ a = .int .i64 0 ∧ w = .int .i64 0) ∨ (0 < pos ∧ ∃ (b : Nat) (m : Int), celsOf acc = pre ++ [(b, pos, m)] ∧ a = .int .i64 b ∧ w = .int .i64 m)

theorem cel_keep : ∀ (l : List Ch) (out : List Cel) (z : Cel), out <+: l.foldl celStep (out ++ [z])
  | [], out, z => ⟨[z], rfl⟩
  | c :: l, out, z => by
    rw [List.foldl_cons]
    by_cases hz : wid c.2.1 = 0
    · rw [celStep_more _ _ _ hz]; exact cel_keep l out _
    · rw [celStep_new _ _ hz]; exact List.IsPrefix.trans ⟨[z], rfl⟩ (cel_keep l (out ++ [z]) _)
/-- What has come before a character of some width stays. -/
theorem cel_told (l : List Ch) (c : Ch) (r : List Ch) (h : ¬ wid c.2.1 = 0) : celsOf l <+: celsOf (l ++ c :: r) := by
  unfold celsOf
  rw [List.foldl_append, List.foldl_cons, celStep_new _ _ h]
  exact cel_keep r _ _
/-- What waits is a cell of the text. -/
theorem waits_ok {s : ByteArray} {acc rest : List Ch} {pre : List Cel} {y : Cel} (h : acc ++ rest = chars s) (e : celsOf acc = pre ++ [y]) : (y.2.2 = 1 ∨ y.2.2 = 2) ∧ y.1 ≤ y.2.1 ∧ y.2.1 ≤ s.size := by
  have ht : (chars s).take acc.length = acc := by rw [← h]; simp
  have hl : acc.length ≤ (chars s).length := by rw [← h]; simp
  refine ⟨cel_wide acc y (by rw [e]; simp), ?_⟩
  have := celsOf_last s acc.length hl pre y (by rw [ht]; exact e)
  exact this.2
theorem iter_cell {wr : World} {k B : Nat} {s : ByteArray} {pos pos' : Nat} {v : Value} (hit : wr.heap[k]? = some (.stringIter s pos)) (h : wr.cell? ⟨B, 0, none⟩ = some v) : (wr.iterAt k s pos').cell? ⟨B, 0, none⟩ = some v ∧ B ≠ k := by
  have hne : B ≠ k := by
    rintro rfl
    unfold World.cell? at h
    rw [hit] at h
    simp at h
  refine ⟨?_, hne⟩
  have e : (wr.iterAt k s pos').heap[B]? = wr.heap[B]? := Array.getElem?_setIfInBounds_ne (Ne.symm hne)
  unfold World.cell? at h ⊢
  simp only [] at h ⊢
  rw [e]
  exact h
theorem notEmpty {s : ByteArray} (h : 0 < s.size) : s.toList.isEmpty = false := by
  have e : s.toList = s.data.toList := ByteArray.toList_eq s
  rw [e]
  cases hd : s.data.toList with
  | nil => exact absurd (show s.size = 0 by have : s.data.size = 0 := by rw [← Array.length_toList, hd]; rfl
                                            exact this) (by omega)
  | cons _ _ => rfl
theorem cell_lt {w : World} {b o : Nat} {v : Value} (h : w.cell? ⟨b, o, none⟩ = some v) : b < w.heap.size := by
  unfold World.cell? at h
  simp only [] at h
  split at h
  · rename_i e; exact (Array.getElem?_eq_some_iff.1 e).1
  · cases h
theorem cell_more {w : World} {b o : Nat} {v : Value} (h : w.cell? ⟨b, o, none⟩ = some v) (x : Obj) : (w.alloc x).cell? ⟨b, o, none⟩ = some v :=
  (((Below.refl _ w).alloc (Nat.le_refl _) x).cell (p := ⟨b, o, none⟩) (cell_lt h)).trans h
theorem iter_grown (w : World) (k : Nat) (s : ByteArray) (pos : Nat) : w.grownBy (w.iterAt k s pos) (some k) := grownBy_putObj' w k (.stringIter s pos)

set_option maxRecDepth 100000 in
set_option maxHeartbeats 4000000 in
theorem cells1_in (n l B : Nat) (s : ByteArray) (hs : s.size ≤ 16777216) (J Jx : List (SCel s) → World → Prop)
    (hY : ∀ pre x W, J pre W → pre.length < (cells s).length → YieldAt Fence.wide (n - 1) Tryz.prog l #[celA s x.1] W fun e W' =>
      (e = .returned (.bool true) ∧ J (pre ++ [x]) W' ∧ KpS B W W') ∨ (e = .returned (.bool false) ∧ Jx (pre ++ [x]) W'))
    (W : World) (hJ : AbidesFrom W.heap.size J) (hB : W.cell? ⟨B, 0, none⟩ = some (.string s)) (h0 : J [] W) (hn : 2 ≤ n) :
    CallsIn Fence.wide n Tryz.prog 174 #[.func (.yield l) #[] #[], .pointer (some ⟨B, 0, none⟩)] W fun e W' => (∃ v, e = .returned v) ∧
      ((∃ ys : List (SCel s), ys.map (·.1) = cells s ∧ J ys W') ∨ (∃ pre : List (SCel s), pre.map (·.1) <+: cells s ∧ Jx pre W')) := by
  have hfw : Fence.wide.fn 175 := trivial
  have h1n : 1 ≤ n := by omega
  refine callsIn_of_wp Tryz.func174 rfl trivial ?_ rfl
  simp only [Tryz.ntmps174, List.size_toArray, List.length_cons, List.length_nil, Nat.reduceAdd, Nat.reduceSub, Array.replicate_succ, Array.replicate_zero, List.push_toArray, List.append_toArray, List.nil_append, List.cons_append]
  gi_wp2
  gi_loopw [3, 4] (fun a m wr => ∃ (pos fuel : Nat) (acc : List Ch) (pre : List (SCel s)), Waits acc pos (pre.map (·.1)) a m ∧ J pre wr ∧ wr.heap[W.heap.size]? = some (.stringIter s pos) ∧ wr.cell? ⟨B, 0, none⟩ = some (.string s) ∧ acc ++ chs s fuel pos = chars s ∧ s.size ≤ pos + fuel ∧ pos ≤ s.size) (fun _ _ wr => s.size - wr.iterPos W.heap.size)
  case atStart =>
    refine ⟨0, s.size, [], [], .inl ⟨rfl, rfl, rfl, rfl, rfl⟩, ?_, ?_, ?_, rfl, by omega, by omega⟩
    · exact hJ _ _ _ none h0 (World.grownBy_alloc W _ none) (fun r e => by cases e)
    · have := World.iter_heap W s 0
      simpa using this
    · exact cell_more hB _
  case round =>
    obtain ⟨pos, fuel, acc, pre, hwt, hj, hit, hc, hacc, hfu, hps⟩ := hrel
    by_cases hp : pos < s.size
    · have hnx : ∀ ty, (Instr.next (.pointer (some ⟨W.heap.size, 0, none⟩)) true ty).run Tryz.prog wr = _ := fun ty => Lib.run_next_any_at wr W.heap.size s pos ty hit hp
      have hwd := width_pos s pos hp
      have hfit := decode_fits s pos hp
      have hit2 := Lib.iterAt_heap wr W.heap.size s pos (pos + (Utf8.decode s pos).2) hit
      have hc2 := (iter_cell (pos' := pos + (Utf8.decode s pos).2) hit hc).1
      have hj2 := hJ _ _ _ (some W.heap.size) hj (iter_grown wr W.heap.size s (pos + (Utf8.decode s pos).2)) (fun r e => by cases e; exact ⟨Nat.le_refl _, _, hit, rfl⟩)
      obtain ⟨f, rfl⟩ : ∃ f, fuel = f + 1 := ⟨fuel - 1, by omega⟩
      have hacc2 : (acc ++ [(pos, (Utf8.decode s pos).1, (Utf8.decode s pos).2)]) ++ chs s f (pos + (Utf8.decode s pos).2) = chars s := by
        rw [← hacc]; simp [chs, hp]
      have hacc3 : acc ++ (pos, (Utf8.decode s pos).1, (Utf8.decode s pos).2) :: chs s f (pos + (Utf8.decode s pos).2) = chars s := by
        rw [← hacc]; simp [chs, hp]
      have HA2 := Lib.hid hacc2
      have HA3 := Lib.hid hacc3
      have HI2 := Lib.hid hit2
      have HI := Lib.hid hit
      have HJ2 := Lib.hid hj2
      clear hacc hacc2 hacc3 hit hit2 hj hj2 hc
      obtain ⟨c, hcd⟩ : ∃ c : Nat × Nat, Utf8.decode s pos = c := ⟨_, rfl⟩
      rw [hcd] at hnx hwd hfit hc2 HA2 HA3 HI2 HJ2
      clear hcd
      have hmx : max (wid c.1) 1 = if wid c.1 = 0 then 1 else wid c.1 := by have := wid_012 c.1; split <;> omega
      rcases hwt with ⟨rfl, hp0, hpre, rfl, rfl⟩ | ⟨h0p, b, m, hce, rfl, rfl⟩
      · have hi0 : ¬ (0 : Int) < (pos : Int) := by omega
        have HP := Lib.hid hp0
        have HR := Lib.hid hpre
        clear hp0 hpre
        by_cases hz : wid c.1 = 0
        · have t1 : (wid (c.1 : Int) == 0) = true := by simpa using hz
          have HZ := Lib.hid hz
          gi_wp2_with (gi_at_call 175; refine (callsIn_wide.2 (width_q _ _)).mono ?_; rintro e w' ⟨rfl, rfl⟩)
          refine ⟨(fun f h => by cases h), ?_⟩
          gi_wp2
          go_roundw
          case rel => exact ⟨pos + c.2, f, [(pos, c.1, c.2)], pre, .inr ⟨by omega, pos, 1, by rw [HR.out]; simp [celsOf, celStep_nil, celNew, HZ.out], rfl, rfl⟩, HJ2.out, HI2.out, hc2, HA2.out, by omega, hfit⟩
          case measure => simp only [World.iterPos, HI2.out, HI.out]; omega
        · have t1 : (wid (c.1 : Int) == 0) = false := by simpa using hz
          have hw1 : 1 ≤ wid c.1 := by have := wid_012 c.1; omega
          have HZ := Lib.hid hz
          clear hz
          gi_wp2_with (gi_at_call 175; refine (callsIn_wide.2 (width_q _ _)).mono ?_; rintro e w' ⟨rfl, rfl⟩)
          refine ⟨(fun f h => by cases h), ?_⟩
          gi_wp2
          go_roundw
          case rel => exact ⟨pos + c.2, f, [(pos, c.1, c.2)], pre, .inr ⟨by omega, pos, wid c.1, by rw [HR.out]; simp [celsOf, celStep_nil, celNew, HZ.out], rfl, rfl⟩, HJ2.out, HI2.out, hc2, HA2.out, by omega, hfit⟩
          case measure => simp only [World.iterPos, HI2.out, HI.out]; omega
      · have hi0 : (0 : Int) < (pos : Int) := by omega
        have HE := Lib.hid hce
        clear hce
        have hok := waits_ok HA3.out HE.out
        by_cases hz : wid c.1 = 0
        · have t1 : (wid (c.1 : Int) == 0) = true := by simpa using hz
          have HZ := Lib.hid hz
          clear hz
          gi_wp2_with (gi_at_call 175; refine (callsIn_wide.2 (width_q _ _)).mono ?_; rintro e w' ⟨rfl, rfl⟩)
          go_roundw
          case rel => exact ⟨pos + c.2, f, acc ++ [(pos, c.1, c.2)], pre, .inr ⟨by omega, b, m, by unfold celsOf; rw [List.foldl_append]; show celStep (celsOf acc) _ = _; rw [HE.out, celStep_more _ _ _ HZ.out], rfl, rfl⟩, HJ2.out, HI2.out, hc2, HA2.out, by omega, hfit⟩
          case measure => simp only [World.iterPos, HI2.out, HI.out]; omega
        · have t1 : (wid (c.1 : Int) == 0) = false := by simpa using hz
          have hw1 : 1 ≤ wid c.1 := by have := wid_012 c.1; omega
          have hpf : pre.map (·.1) ++ [(b, pos, m)] <+: cells s := by
            have := cel_told acc (pos, c.1, c.2) (chs s f (pos + c.2)) hz
            rw [HA3.out, HE.out] at this
            exact this
          have hlen : pre.length < (cells s).length := by have := hpf.length_le; simp at this; omega
          have HZ := Lib.hid hz
          have HPF := Lib.hid hpf
          obtain ⟨fn, tmps, assign, body, hy, hR⟩ := hY pre ⟨(b, pos, m), hok⟩ _ HJ2.out hlen
          simp only [celA] at hy
          have b1 : (0 : Int) ≤ b := by omega
          have b2 : (b : Int) ≤ pos := by have := hok.2.1; simp at this; omega
          have b3 : (pos : Int) ≤ s.size := by omega
          clear hz hpf hlen hJ hY
          gi_wp2_with (gi_at_call 175; refine (callsIn_wide.2 (width_q _ _)).mono ?_; rintro e w' ⟨rfl, rfl⟩)
          refine hR.mono ?_
          rintro e W3 (⟨rfl, hJ3, hk3⟩ | ⟨rfl, hJx3⟩)
          · have hc3 := hk3.2 _ hc2
            have hit3 := hk3.1.same _ _ HI2.out rfl
            have HJ3 := Lib.hid hJ3
            have HI3 := Lib.hid hit3
            clear hJ3 hit3 hk3 hc2
            gi_wp2
            go_roundw
            case rel => exact ⟨pos + c.2, f, acc ++ [(pos, c.1, c.2)], pre ++ [⟨(b, pos, m), hok⟩], .inr ⟨by omega, pos, wid c.1, by unfold celsOf; rw [List.foldl_append]; show celStep (celsOf acc) _ = _; rw [HE.out, celStep_new _ _ HZ.out]; simp [celNew, HZ.out], rfl, rfl⟩, HJ3.out, HI3.out, hc3, HA2.out, by omega, hfit⟩
            case measure => simp only [World.iterPos, HI3.out, HI.out]; omega
          · gi_wp2
            refine bodyPost_ret (results_none rfl _ _ _) rfl ?_
            exact ⟨⟨_, rfl⟩, .inr ⟨pre ++ [⟨(b, pos, m), hok⟩], by simpa using HPF.out, hJx3⟩⟩
    · have hnx : ∀ ty, (Instr.next (.pointer (some ⟨W.heap.size, 0, none⟩)) true ty).run Tryz.prog wr = _ := fun ty => Lib.run_next_end_at wr W.heap.size s pos ty hit hp
      obtain rfl : pos = s.size := by omega
      rw [chs_end s fuel _ hp, List.append_nil] at hacc
      subst hacc
      clear hit hJ
      rcases hwt with ⟨hac, hp0, hpre, rfl, rfl⟩ | ⟨h0p, b, m, hce, rfl, rfl⟩
      · have t1 : s.toList = [] := by rw [ByteArray.toList_eq]; exact List.eq_nil_of_length_eq_zero (by simpa using hp0)
        have hd : pre.map (·.1) = cells s := by unfold cells; rw [hac, hpre]; rfl
        have HD := Lib.hid hd
        clear hd hac hp0 hpre
        gi_wp2
        go_end0
        exact ⟨⟨_, rfl⟩, .inl ⟨pre, HD.out, hj⟩⟩
      · have hok := waits_ok (rest := []) (List.append_nil _) hce
        have hd : pre.map (·.1) ++ [(b, s.size, m)] = cells s := hce.symm
        have hlen : pre.length < (cells s).length := by rw [← hd]; simp
        have HD := Lib.hid hd
        have t1 := notEmpty h0p
        obtain ⟨fn, tmps, assign, body, hy, hR⟩ := hY pre ⟨(b, s.size, m), hok⟩ _ hj hlen
        simp only [celA] at hy
        have b1 : (0 : Int) ≤ b := by omega
        have b2 : (b : Int) ≤ s.size := by have := hok.2.1; simp at this; omega
        clear hd hlen hY hce hj
        gi_wp2
        refine hR.mono ?_
        rintro e W3 (⟨rfl, hJ3, hk3⟩ | ⟨rfl, hJx3⟩)
        · clear hk3
          gi_wp2
          go_end0
          exact ⟨⟨_, rfl⟩, .inl ⟨pre ++ [⟨(b, s.size, m), hok⟩], by simpa using HD.out, hJ3⟩⟩
        · gi_wp2
          go_end0
          exact ⟨⟨_, rfl⟩, .inr ⟨pre ++ [⟨(b, s.size, m), hok⟩], by rw [← HD.out]; simp, hJx3⟩⟩
end
section
open Go.RowKit Go.Shelf

attribute [local go_sem] Oper.semAt_some

/-- A call answers v; of what was there nothing has changed. -/
def Says (v : Value) (w : World) (e : Ending) (w' : World) : Prop := e = .returned v ∧ Below w.heap.size w w'
/-- A call answers a new list whose cells hold xs. -/
def RowIs (T : TypeId) (size n : Nat) (xs : List Value) (w : World) (e : Ending) (w' : World) : Prop :=
  ∃ v : Value, e = .returned v ∧ w'.ownsRow w.heap.size T size v n xs ∧ Below w.heap.size w w'

theorem KpS.set {B : Nat} (W : World) (b o : Nat) (v : Value) (h : B ≠ b) : KpS B W (W.setCell ⟨b, o, none⟩ v) := by
  refine ⟨KeepsWalks.setCell _ _ _, fun u e => ?_⟩
  have hb : (W.setCell ⟨b, o, none⟩ v).heap[B]? = W.heap[B]? := Below.heap_setCell _ _ _ B h
  unfold World.cell? at e ⊢
  simp only [] at e ⊢
  rw [hb]
  exact e
theorem KpS.alloc {B : Nat} (W : World) (o : Obj) : KpS B W (W.alloc o) := ⟨KeepsWalks.alloc _ _, fun _ e => cell_more e _⟩
theorem KpS.grown {B : Nat} {W W' : World} {row : Option Nat} (hg : W.grownBy W' row) (hrow : ∀ (j : Nat) (o : Obj), row = some j → W.heap[j]? = some o → o.isWalk = false) (h : some B ≠ row) : KpS B W W' := by
  refine ⟨KeepsWalks.of_grownBy hg hrow, fun u e => ?_⟩
  have hb : W'.heap[B]? = W.heap[B]? := hg.block B (cell_lt e) h
  unfold World.cell? at e ⊢
  simp only [] at e ⊢
  rw [hb]
  exact e

/-- The function value over one new block that holds the text. -/
theorem cells_in (n : Nat) (s : ByteArray) (w : World) :
    CallsIn Fence.wide n Tryz.prog 141 #[.string s] w fun e w' => e = .returned (.func (.func 174) #[] #[.pointer (some ⟨w.heap.size, 0, none⟩)]) ∧ w' = w.alloc (.cells #[.string s] 9) := by
  refine callsIn_of_wp Tryz.func141 rfl trivial ?_ rfl
  simp only [Tryz.ntmps141, List.size_toArray, List.length_cons, List.length_nil, Nat.reduceAdd, Nat.reduceSub, Array.replicate_succ, Array.replicate_zero, List.push_toArray, List.append_toArray, List.nil_append, List.cons_append]
  gi_wp2
  go_ret
  exact ⟨rfl, rfl⟩

theorem cells_stops (n : Nat) (hn : 2 ≤ n) (B : Nat) (s : ByteArray) (hs : s.size ≤ 16777216) (w : World) (hB : w.cell? ⟨B, 0, none⟩ = some (.string s)) :
    SeqStopsK Fence.wide n Tryz.prog 174 #[.pointer (some ⟨B, 0, none⟩)] (fun x : SCel s => #[celA s x.1]) (KpS B) (fun ys => ys.map (·.1) = cells s) (fun pre => pre.map (·.1) <+: cells s) (cells s).length w := fun l J Jx W hW hJ _ hY h0 =>
  cells1_in n l B s hs J Jx hY W hJ ((hW.cell (p := ⟨B, 0, none⟩) (cell_lt hB)).trans hB) h0 hn

end
section
open Go.RowKit Go.Shelf

attribute [local go_sem] Oper.semAt_some

theorem infoCelP : (Tryz.prog.info? 178).map (fun i => (i.zero, i.size, i.bytes)) = some (some (.agg #[.string .empty, .int .i64 0, .int .i64 0]), 3, 32) := by kernel_rfl
theorem own_noWalk {W : World} {base : Nat} {e : TypeId} {size : Nat} {v : Value} {n : Nat} {xs : List Value} (h : W.ownsRow base e size v n xs) : ∀ (j : Nat) (o : Obj), v.ownBlock = some j → W.heap[j]? = some o → o.isWalk = false := by
  intro j o ej hj
  rcases h.2 with ⟨rfl, _⟩ | ⟨g, cap, cur, rfl, _, hgb, _⟩
  · simp [Value.ownBlock] at ej
  · obtain rfl : g = j := by simpa [Value.ownBlock] using ej
    rw [hgb] at hj; cases hj; rfl
end
section
open Go.RowKit Go.Maps

def placeOf (o : Option Ch) : Int := match o with | some c => c.1 | none => 0
def unplain (c : Ch) : Bool := badB c || ctl c.2.1
/-- What Good and Plain answer, by what is looked for. -/
def Finds (p : Ch → Bool) (s : ByteArray) (w : World) (e : Ending) (w' : World) : Prop :=
  e = .returned (.tuple #[.int .i64 (placeOf ((chars s).find? p)), .bool ((chars s).find? p).isNone]) ∧ Below w.heap.size w w'
end
end Go.Proofs.YtalomeialegmiaaGreatDoor
end
section
namespace Go.Proofs.YtalomeialegmiaaGreatDoor
section
open Go.RowKit Go.Maps

/-- What the library's own variables hold: the tables of utf8, and the length up to which it searches by one instruction. -/
def Tabs (w : World) : Prop := Lib.Utf8Tabs 1 2 w ∧ ∃ m, w.cell? ⟨3, 0, none⟩ = some (.int .i64 m)
theorem Tabs.below {B : Nat} {w w' : World} (h : Tabs w) (hb : Below B w w') (hB : w.heap.size ≤ B) : Tabs w' := by
  obtain ⟨⟨h1, h2⟩, m, h3⟩ := h
  have go : ∀ (b o : Nat) (v : Value), w.cell? ⟨b, o, none⟩ = some v → w'.cell? ⟨b, o, none⟩ = some v := fun b o v e => (hb.cell (p := ⟨b, o, none⟩) (Nat.lt_of_lt_of_le (cell_lt e) hB)).trans e
  exact ⟨⟨fun c hc => go _ _ _ (h1 c hc), fun i hi => ⟨go _ _ _ (h2 i hi).1, go _ _ _ (h2 i hi).2⟩⟩, m, go _ _ _ h3⟩
theorem Tabs.lt {w : World} (h : Tabs w) : 3 ≤ w.heap.size := by
  have := cell_lt (h.1.2 0 (by omega)).1
  have e : 2 ≤ 2 := by decide
  omega
theorem get!_ext (s : ByteArray) (i k : Nat) : (s.extract i s.size).get! k = s.get! (i + k) := by
  have h : (s.extract i s.size).data = s.data.extract i s.size := by simp
  show (s.extract i s.size).data[k]! = s.data[i + k]!
  rw [h]
  simp only [Array.getElem!_eq_getD, Array.getD_eq_getD_getElem?]
  rw [Array.getElem?_extract]
  by_cases hk : k < s.size - i
  · rw [if_pos (by simpa using hk)]
  · rw [if_neg (by simpa using hk)]
    have : s.data[i + k]? = none := Array.getElem?_eq_none (by show s.size ≤ i + k; omega)
    rw [this]
theorem decode_tail (s : ByteArray) (i : Nat) (h : i < s.size) : Lib.decodeGo (s.extract i s.size) = Utf8.decode s i := by
  have hz : (s.extract i s.size).size = s.size - i := by rw [ByteArray.size_extract]; omega
  unfold Lib.decodeGo
  rw [if_neg (by omega), Lib.decode_at, Lib.decode_at, hz]
  simp only [get!_ext, Nat.zero_add, Nat.add_zero, Nat.sub_zero]

set_option maxRecDepth 100000 in
set_option maxHeartbeats 1000000 in
theorem bad_pro (s : ByteArray) (i : Nat) (w : World) (hi : i < s.size) (hs : s.size ≤ 16777216) (hT : Tabs w) :
    Calls Tryz.prog 169 #[.string s, .int .i64 i, .int .i32 (Utf8.decode s i).1] w (Says (.bool (badB (i, (Utf8.decode s i).1, (Utf8.decode s i).2))) w) := by
  have hd := Lib.hid (decode_tail s i hi)
  obtain ⟨c, hc⟩ : ∃ c : Nat × Nat, Utf8.decode s i = c := ⟨_, rfl⟩
  rw [hc]
  have HC := Lib.hid hc
  clear hc
  have b1 : (0 : Int) ≤ i := by omega
  have b2 : (i : Int) ≤ s.size := by omega
  have b3 : (s.size : Int) ≤ 16777216 := by omega
  have HT := Lib.hid hT
  clear hi hs hT
  by_cases h : c.1 = 65533
  · have t1 : ((c.1 : Int) != 65533) = false := by simp; omega
    have HB := Lib.hid (show badB (i, c.1, c.2) = ((c.2 : Int) == 1) by rw [Bool.eq_iff_iff]; simp [badB, h]; omega)
    clear h
    go_enter Tryz.func169, Tryz.ntmps169
    go_wp2_with fail
    refine (Tryz.utf8_DecodeRuneInString _ _ HT.out.1).mono ?_
    rw [hd.out, HC.out]
    rintro e w1 ⟨rfl, hb⟩
    have HZ := Lib.hid hb
    clear hb
    go_wp2_with fail
    go_ret
    rw [HB.out]
    exact ⟨rfl, HZ.out⟩
  · have t1 : ((c.1 : Int) != 65533) = true := by simp; omega
    have HB := Lib.hid (show badB (i, c.1, c.2) = false by simp [badB, h])
    clear h
    go_enter Tryz.func169, Tryz.ntmps169
    go_wp2_with fail
    go_ret
    rw [HB.out]
    exact ⟨rfl, Below.refl _ _⟩

theorem find_app {p : Ch → Bool} {acc rest : List Ch} {c : Ch} (hn : ∀ d ∈ acc, p d = false) (hp : p c = true) : (acc ++ c :: rest).find? p = some c := by
  rw [List.find?_append, List.find?_eq_none.2 (fun d hd => by simp [hn d hd])]
  simp [hp]
theorem find_nil {p : Ch → Bool} {l : List Ch} (hn : ∀ d ∈ l, p d = false) : l.find? p = none := List.find?_eq_none.2 fun d hd => by simp [hn d hd]
theorem pro_hit {p : Ch → Bool} {s : ByteArray} {w w' : World} {acc rest : List Ch} {c : Ch} (h : acc ++ c :: rest = chars s) (hn : ∀ d ∈ acc, p d = false) (hp : p c = true) (hb : Below w.heap.size w w') :
    Finds p s w (.returned (.tuple #[.int .i64 c.1, .bool false])) w' := by
  unfold Finds
  rw [← h, find_app hn hp]
  exact ⟨rfl, hb⟩
theorem pro_miss {p : Ch → Bool} {s : ByteArray} {w w' : World} {acc : List Ch} (h : acc = chars s) (hn : ∀ d ∈ acc, p d = false) (hb : Below w.heap.size w w') :
    Finds p s w (.returned (.tuple #[.int .i64 0, .bool true])) w' := by
  unfold Finds
  rw [← h, find_nil hn]
  exact ⟨rfl, hb⟩
theorem chs_split {s : ByteArray} {acc : List Ch} {pos f : Nat} (hp : pos < s.size) (h : acc ++ chs s (f + 1) pos = chars s) :
    acc ++ (pos, (Utf8.decode s pos).1, (Utf8.decode s pos).2) :: chs s f (pos + (Utf8.decode s pos).2) = chars s := by
  rw [← h]; simp [chs, hp]
theorem chs_join {s : ByteArray} {acc : List Ch} {c : Ch} {r : List Ch} (h : acc ++ c :: r = chars s) : (acc ++ [c]) ++ r = chars s := by rw [← h]; simp

set_option maxRecDepth 100000 in
set_option maxHeartbeats 2000000 in
theorem plain_pro (s : ByteArray) (w : World) (hs : s.size ≤ 16777216) (hT : Tabs w) : Calls Tryz.prog 134 #[.string s] w (Finds unplain s w) := by
  have HS := Lib.hid hs
  have HTW := Lib.hid hT
  clear hs hT
  go_enter Tryz.func134, Tryz.ntmps134
  go_wp2_with fail
  go_loopw [] (fun wr => ∃ (pos fuel : Nat) (acc : List Ch), wr.heap[w.heap.size]? = some (.stringIter s pos) ∧ Below w.heap.size w wr ∧ acc ++ chs s fuel pos = chars s ∧ s.size ≤ pos + fuel ∧ ∀ d ∈ acc, unplain d = false) (fun wr => s.size - wr.iterPos w.heap.size)
  case atStart =>
    refine ⟨0, s.size, [], ?_, (Below.refl _ w).alloc (Nat.le_refl _) _, rfl, by omega, by simp⟩
    have := World.iter_heap w s 0
    simpa using this
  case round =>
    obtain ⟨pos, fuel, acc, hit, hbw, hacc, hfu, hn⟩ := hrel
    have HI := Lib.hid hit
    have HN := Lib.hid hn
    by_cases hp : pos < s.size
    · have hnx : ∀ ty, (Instr.next (.pointer (some ⟨w.heap.size, 0, none⟩)) true ty).run Tryz.prog wr = _ := fun ty => Lib.run_next_any_at wr w.heap.size s pos ty hit hp
      have hwd := width_pos s pos hp
      have hit2 := Lib.iterAt_heap wr w.heap.size s pos (pos + (Utf8.decode s pos).2) hit
      have hbw2 := Lib.below_iterAt hbw (k := w.heap.size) (Nat.le_refl _) s (pos + (Utf8.decode s pos).2)
      obtain ⟨f, rfl⟩ : ∃ f, fuel = f + 1 := ⟨fuel - 1, by omega⟩
      have HA := Lib.hid (chs_split hp hacc)
      have HT := Lib.hid (HTW.out.below hbw2 (Nat.le_refl _))
      have HI2 := Lib.hid hit2
      have HB2 := Lib.hid hbw2
      have HP := Lib.hid hp
      clear hacc hit hbw hit2 hbw2 hn hp
      cases hbad : badB (pos, (Utf8.decode s pos).1, (Utf8.decode s pos).2)
      · have HD := Lib.hid hbad
        cases h1 : inB ((Utf8.decode s pos).1 : Int) 0 31
        · cases h2 : inB ((Utf8.decode s pos).1 : Int) 127 159
          · have HU := Lib.hid (show unplain (pos, (Utf8.decode s pos).1, (Utf8.decode s pos).2) = false by simp [unplain, ctl, hbad, h1, h2])
            clear hbad
            go_wp2_with (first | (go_at_call 169; refine (bad_pro s pos _ HP.out HS.out HT.out).mono ?_; rw [HD.out]; rintro e w1 ⟨rfl, hb⟩; have hit3 := (hb.block w.heap.size (Array.getElem?_eq_some_iff.1 HI2.out).1).trans HI2.out; have HI3 := Lib.hid hit3; have HB3 := Lib.hid (HB2.out.trans (hb.mono HB2.out.size)); clear hb hit3) | (go_at_call 170; refine (within_pro _ _ _ _).mono ?_; rintro e w2 ⟨rfl, rfl⟩))
            go_roundw
            case rel =>
              refine ⟨_, f, _, HI3.out, HB3.out, chs_join HA.out, by omega, fun d hd => ?_⟩
              rcases List.mem_append.1 hd with h | h
              · exact HN.out d h
              · rw [List.mem_singleton.1 h]; exact HU.out
            case measure => simp only [World.iterPos, HI3.out, HI.out]; have := HP.out; omega
          · have HU := Lib.hid (show unplain (pos, (Utf8.decode s pos).1, (Utf8.decode s pos).2) = true by simp [unplain, ctl, h2])
            clear hbad
            go_wp2_with (first | (go_at_call 169; refine (bad_pro s pos _ HP.out HS.out HT.out).mono ?_; rw [HD.out]; rintro e w1 ⟨rfl, hb⟩; have hit3 := (hb.block w.heap.size (Array.getElem?_eq_some_iff.1 HI2.out).1).trans HI2.out; have HI3 := Lib.hid hit3; have HB3 := Lib.hid (HB2.out.trans (hb.mono HB2.out.size)); clear hb hit3) | (go_at_call 170; refine (within_pro _ _ _ _).mono ?_; rintro e w2 ⟨rfl, rfl⟩))
            go_ret2
            exact pro_hit HA.out HN.out HU.out HB3.out
        · have HU := Lib.hid (show unplain (pos, (Utf8.decode s pos).1, (Utf8.decode s pos).2) = true by simp [unplain, ctl, h1])
          clear hbad
          go_wp2_with (first | (go_at_call 169; refine (bad_pro s pos _ HP.out HS.out HT.out).mono ?_; rw [HD.out]; rintro e w1 ⟨rfl, hb⟩; have hit3 := (hb.block w.heap.size (Array.getElem?_eq_some_iff.1 HI2.out).1).trans HI2.out; have HI3 := Lib.hid hit3; have HB3 := Lib.hid (HB2.out.trans (hb.mono HB2.out.size)); clear hb hit3) | (go_at_call 170; refine (within_pro _ _ _ _).mono ?_; rintro e w2 ⟨rfl, rfl⟩))
          go_ret2
          exact pro_hit HA.out HN.out HU.out HB3.out
      · have HD := Lib.hid hbad
        have HU := Lib.hid (show unplain (pos, (Utf8.decode s pos).1, (Utf8.decode s pos).2) = true by simp [unplain, hbad])
        clear hbad
        go_wp2_with (first | (go_at_call 169; refine (bad_pro s pos _ HP.out HS.out HT.out).mono ?_; rw [HD.out]; rintro e w1 ⟨rfl, hb⟩; have hit3 := (hb.block w.heap.size (Array.getElem?_eq_some_iff.1 HI2.out).1).trans HI2.out; have HI3 := Lib.hid hit3; have HB3 := Lib.hid (HB2.out.trans (hb.mono HB2.out.size)); clear hb hit3) | (go_at_call 170; refine (within_pro _ _ _ _).mono ?_; rintro e w2 ⟨rfl, rfl⟩))
        go_ret2
        exact pro_hit HA.out HN.out HU.out HB3.out
    · have hnx : ∀ ty, (Instr.next (.pointer (some ⟨w.heap.size, 0, none⟩)) true ty).run Tryz.prog wr = _ := fun ty => Lib.run_next_end_at wr w.heap.size s pos ty hit hp
      rw [chs_end s fuel _ hp, List.append_nil] at hacc
      have HA := Lib.hid hacc
      have HB := Lib.hid hbw
      clear hacc hit hbw hn
      go_wp2_with fail
      go_ret2
      exact pro_miss HA.out HN.out HB.out
end
section
open Go.RowKit Go.Maps

theorem sizeB : (Tryz.prog.info? 155).map (·.size) = some 2 := by kernel_rfl
theorem infoB5 : (Tryz.prog.info? 5).map (fun i => (i.zero, i.size, i.bytes)) = some (some (.int .u8 0), 1, 1) := by kernel_rfl
abbrev BAt (B b : Nat) (bs : List Value) (w : World) : Prop := Lib.BuilderAtF 155 5 B b (.pointer (some ⟨b, 0, none⟩)) bs w
abbrev BIs (B b : Nat) (bs : List Value) (w : World) : Prop := Lib.IsBuilderF 155 5 B b bs w
/-- A call has left the builder with bs, and all else but rows of bytes as it was. -/
def Built (B b : Nat) (bs : List Value) (w w' : World) : Prop := BAt B b bs w' ∧ Below B w w' ∧ Lib.OthersKept 5 (some b) w w'
def Wrote (v : Value) (B b : Nat) (bs : List Value) (w : World) (e : Ending) (w' : World) : Prop := e = .returned v ∧ Built B b bs w w'

set_option maxRecDepth 100000 in
set_option maxHeartbeats 1000000 in
theorem check_used (b : Nat) (w : World) (h0 : w.cell? ⟨b, 0, none⟩ = some (.pointer (some ⟨b, 0, none⟩))) :
    Calls Tryz.prog 129 #[.pointer (some ⟨b, 0, none⟩)] w fun e w' => e = .returned (.tuple #[]) ∧ w' = w := by
  obtain ⟨j, hj, _⟩ := Option.map_eq_some_iff.1 sizeB
  go_enter Tryz.func129, Tryz.ntmps129
  go_wp2
  rw [Lib.run_neq_ptr_same w _ Tryz.underlying153 hj]
  go_wp2
  go_end0
  exact ⟨rfl, rfl⟩

set_option maxRecDepth 100000 in
set_option maxHeartbeats 1000000 in
theorem check_fresh (b : Nat) (w : World) (h0 : w.cell? ⟨b, 0, none⟩ = some (.pointer none)) (hsh : w.shape? b = some (155, 2)) (hfz : w.frozen? ⟨b, 0, none⟩ = false) :
    Calls Tryz.prog 129 #[.pointer (some ⟨b, 0, none⟩)] w fun e w' => e = .returned (.tuple #[]) ∧ w' = w.setCell ⟨b, 0, none⟩ (.pointer (some ⟨b, 0, none⟩)) := by
  obtain ⟨j, hj, hjs⟩ := Option.map_eq_some_iff.1 sizeB
  go_enter Tryz.func129, Tryz.ntmps129
  go_wp2
  rw [Lib.run_to_unsafe w ⟨b, 0, none⟩ Tryz.underlying153 Tryz.underlying232 hj (by rw [hjs]; decide) hsh (Nat.zero_lt_succ 1)]
  simp only [Result.andThen]
  rw [Oper.upon_value]
  go_wp2
  rw [run_callFunc_extern Tryz.func161 (by kernel_rfl) (by kernel_rfl) (by kernel_rfl) (e := Extern.AbiNoEscape.same) (by kernel_rfl)]
  rw [Lib.run_noEscape]
  simp only [Result.andThen]
  rw [Oper.upon_value]
  go_wp2
  rw [Lib.run_from_unsafe w ⟨b, 0, none⟩ Tryz.underlying232 Tryz.underlying153 hj hsh Tryz.Builder_Extra_169.liesBuilder]
  simp only [Result.andThen]
  rw [Oper.upon_value]
  go_wp2
  go_end0
  exact ⟨rfl, rfl⟩

theorem check_pro (B b : Nat) (bs : List Value) (w : World) (h : BIs B b bs w) :
    Calls Tryz.prog 129 #[.pointer (some ⟨b, 0, none⟩)] w (Wrote (.tuple #[]) B b bs w) := by
  rcases h with h | h
  · refine (check_fresh b w h.cell0 h.shape h.frozen0).mono ?_
    rintro e w' ⟨rfl, rfl⟩
    exact ⟨rfl, h.used _, (Below.refl B w).setCell (p := ⟨b, 0, none⟩) h.1 _, (Lib.OthersKept.refl _ _ w).setCell ⟨b, 0, none⟩ rfl _⟩
  · refine (check_used b w h.cell0).mono ?_
    rintro e w' ⟨rfl, rfl⟩
    exact ⟨rfl, h, Below.refl B _, Lib.OthersKept.refl _ _ _⟩
/-- What the slice of a builder's bytes looks like. -/
theorem row_form {B : Nat} {v : Value} {n : Nat} {xs : List Value} {w : World} (h : w.ownsRowF B 5 1 v n xs) : ∃ a c, v = .slice a n c := by
  rcases h.2 with ⟨hv, h0⟩ | ⟨g, cap, cur, fz, hv, _⟩
  · exact ⟨none, 0, by rw [hv, h0]⟩
  · exact ⟨_, _, hv⟩
theorem built_put0 {B b : Nat} {v v' : Value} {bs more : List Value} {w w1 w2 : World} (h1 : B ≤ b) (hbk : w1.heap[b]? = some (.cells #[.pointer (some ⟨b, 0, none⟩), v] 155 (0, 0)))
    (hown : w1.ownsRowF B 5 1 v bs.length bs) (hne : v.ownBlock ≠ some b) (hb1 : Below B w w1) (hk1 : Lib.OthersKept 5 (some b) w w1)
    (hown' : w2.ownsRowF B 5 1 v' (bs ++ more).length (bs ++ more)) (hgrow : w1.grownBy w2 v.ownBlock) :
    w2.heap[b]? = some (.cells #[.pointer (some ⟨b, 0, none⟩), v] 155 (0, 0)) ∧ Built B b (bs ++ more) w (w2.setCell ⟨b, 1, none⟩ v') := by
  have hlt : b < w1.heap.size := (Array.getElem?_eq_some_iff.1 hbk).1
  have hb2 : w2.heap[b]? = some (.cells #[.pointer (some ⟨b, 0, none⟩), v] 155 (0, 0)) := by
    rw [hgrow.block b hlt (fun e => hne e.symm)]
    exact hbk
  refine ⟨hb2, Lib.BuilderAtF.put (T := 155) (e := 5) h1 hb2 hown' (by decide), ?_, (hk1.grown hgrow (Lib.ownsRowF_kind hown)).setCell ⟨b, 1, none⟩ rfl _⟩
  exact (hb1.grown hgrow (by have := hb1.size; omega) (fun k hk => (hown.lt k hk).1)).setCell (p := ⟨b, 1, none⟩) h1 _

set_option maxRecDepth 100000 in
set_option maxHeartbeats 2000000 in
theorem str_pro (B b : Nat) (bs : List Value) (t : ByteArray) (w : World) (h : BIs B b bs w) (hlen : bs.length + t.size ≤ 140737488355328) (hBw : B ≤ w.heap.size) :
    Calls Tryz.prog 86 #[.pointer (some ⟨b, 0, none⟩), .string t] w (Wrote (.tuple #[.int .i64 t.size, .nilIface]) B b (bs ++ Lib.strCells t) w) := by
  obtain ⟨i0, hi, hz0, hz1, hz2⟩ := info_parts infoB5
  go_enter Tryz.func86, Tryz.ntmps86
  go_wp2_with fail
  refine (check_pro B b bs _ h).mono ?_
  rintro e w1 ⟨rfl, ⟨hB, v, hbk, hown, hne⟩, hb1, hk1⟩
  have c1 : w1.cell? ⟨b, 1, none⟩ = some v := by rw [Lib.cell_of_heap hbk]; rfl
  have K := Lib.hid (fun (w2 : World) (v' : Value) => built_put0 (v' := v') (more := Lib.strCells t) (w2 := w2) hB hbk hown hne hb1 hk1)
  have HO := Lib.hid hown
  have L1 := Lib.hid (show bs.length + t.size ≤ maxLen by unfold maxLen; omega)
  have L2 := Lib.hid (show (bs.length + t.size) * 1 ≤ 140737488355328 by omega)
  have L3 := Lib.hid (show B ≤ w1.heap.size by have := hb1.size; omega)
  clear hlen hBw hbk hown hne hb1 hk1 h
  go_wp2_with (at_builtin; go_loud (refine Lib.wpList_append_own_stringF _ rfl _ _ 147 9 rfl B 5 i0 Tryz.underlying147 Tryz.underlying9 hi hz0 hz1 hz2 _ _ _ rfl HO.out t rfl ?c3 ?c4 ?c5 ?_))
  case c3 => exact L1.out
  case c4 => have := L2.out; omega
  case c5 => exact L3.out
  intro v' w2 hown' hgrow _
  obtain ⟨g, cap, rfl⟩ := row_form hown'
  obtain ⟨hb2, hbt⟩ := K.out w2 _ (by simpa [Lib.strCells_length] using hown') hgrow
  have d0 : w2.cell? ⟨b, 0, none⟩ = some (.pointer (some ⟨b, 0, none⟩)) := by rw [Lib.cell_of_heap hb2]; rfl
  have d1 : w2.cell? ⟨b, 1, none⟩ = some v := by rw [Lib.cell_of_heap hb2]; rfl
  have f1 : w2.frozen? ⟨b, 1, none⟩ = false := Lib.frozen_of_heap hb2 1
  have HT := Lib.hid hbt
  clear hbt hown' hgrow hb2
  go_wp2_with fail
  go_ret2
  exact ⟨rfl, HT.out⟩

end
section
open Go.RowKit Go.Maps

end
section
open Go.RowKit Go.Maps

def sgn (a b : Int) : Int := if a < b then -1 else if b < a then 1 else 0
theorem ret_i {k : IntKind} {a b : Int} (h : a = b) : Ending.returned (.int k a) = Ending.returned (.int k b) := by rw [h]

theorem list_len (a : ByteArray) : a.data.toList.length = a.size := by simp
end
section
open Go.RowKit Go.Maps

theorem bis_below {B b : Nat} {bs : List Value} {w w' : World} (h : BIs B b bs w) (hb : Below w.heap.size w w') : BIs B b bs w' := by
  have hg : w.grownBy w' none := ⟨hb.os, hb.tape, hb.output, hb.size, fun k hk _ => hb.block k hk⟩
  have go : ∀ p, Lib.BuilderAtF 155 5 B b p bs w → Lib.BuilderAtF 155 5 B b p bs w' := by
    rintro p ⟨h1, v, hk, ho, hne⟩
    exact ⟨h1, v, (hb.block b (Array.getElem?_eq_some_iff.1 hk).1).trans hk, ho.kept hg (by cases hv : v.ownBlock <;> simp), hne⟩
  exact h.imp (go _) (go _)
end
end Go.Proofs.YtalomeialegmiaaGreatDoor
end
section
namespace Go.Proofs.YtalomeialegmiaaGreatDoor
open Go.RowKit Go.Shelf

attribute [local go_sem] Oper.semAt_some

/-- What a loop that collects holds between two rounds. -/
def ColI (s : ByteArray) (w : World) (pre : List (SCel s)) (W : World) : Prop :=
  (∃ v, Boxed W w.heap.size 176 v ∧ W.ownsRow w.heap.size 178 3 v pre.length (celsV s (pre.map (·.1))) ∧ True) ∧ Below w.heap.size w W

set_option maxRecDepth 100000 in
set_option maxHeartbeats 4000000 in
theorem append_in (s : ByteArray) (B : Nat) (w : World) (hs : s.size ≤ 16777216) (hB : w.cell? ⟨B, 0, none⟩ = some (.string s)) :
    CallsIn Fence.wide 7 Tryz.prog 173 #[.slice none 0 0, .func (.func 174) #[] #[.pointer (some ⟨B, 0, none⟩)]] w (RowIs 178 3 (cells s).length (celsV s (cells s)) w) := by
  obtain ⟨i0, hi, hz0, hz1, hz2⟩ := info_parts infoCelP
  have hf1 : Fence.wide.fn 174 := trivial
  have hl := cells_len s
  have hBl := cell_lt hB
  refine callsIn_of_wp_marks Tryz.func173 rfl trivial ?_ rfl
  simp only [Tryz.ntmps173, List.size_toArray, List.length_cons, List.length_nil, Nat.reduceAdd, Nat.reduceSub, Array.replicate_succ, Array.replicate_zero, List.push_toArray, List.append_toArray, List.nil_append, List.cons_append]
  gi_wp2
  have bV := Boxed.new w 176 (.slice none 0 0)
  have hB0 : Below w.heap.size w (w.alloc (.cells #[.slice none 0 0] 176)) := (Below.refl _ w).alloc (Nat.le_refl _) _
  have hsz : (w.alloc (.cells #[.slice none 0 0] 176)).heap.size = w.heap.size + 1 := by simp
  have hBW := cell_more hB (.cells #[.slice none 0 0] 176)
  obtain ⟨W0, hW0⟩ : ∃ W0, w.alloc (.cells #[.slice none 0 0] 176) = W0 := ⟨_, rfl⟩
  rw [hW0] at bV hB0 hsz hBW ⊢
  clear hW0
  refine wpIn_rangeFunc_ownH rfl (by omega) (gf := 174) (lb := #[.pointer (some ⟨B, 0, none⟩)]) rfl trivial (enters_of Tryz.func174 (by kernel_rfl) rfl)
    (cells_stops (7 - 1) (by omega) B s hs W0 hBW) KpS.t (fun W l o o' _ h hc hw => KpS.put W l o o' h hc hw) (Below.refl _ _) (fun _ => rfl)
    (ColI s w)
    (fun _ _ _ => False)
    (OwnFrom.and (Own.from (holdsRow_own _ _ _ _ _ _ _ _) _) (ownFrom_below (Nat.le_refl _) (by omega)))
    (fun _ _ _ _ _ hs _ _ => hs)
    ⟨⟨_, bV, World.ownsRow_nil _ _ _ _, trivial⟩, hB0⟩
    (fun x a' W => ∃ Bx, w.heap.size < Bx ∧ W.heap[Bx]? = some (.cells #[.string (s.extract x.1.1 x.1.2.1), .int .i64 x.1.1, .int .i64 x.1.2.2] 178 (0, 0)) ∧ a' = { tmps := #[.slice none 0 0, .func (.func 174) #[] #[.pointer (some ⟨B, 0, none⟩)], .pointer (some ⟨w.heap.size, 0, none⟩), undef, .slice none 0 0, .pointer (some ⟨Bx, 0, none⟩), .func (.func 174) #[] #[.pointer (some ⟨B, 0, none⟩)], Value.agg #[.string (s.extract x.1.1 x.1.2.1), .int .i64 x.1.1, .int .i64 x.1.2.2], undef, undef, undef, undef, undef], defers := [] })
    (fun x a' _ X Y row hs hg hr => by
      obtain ⟨Bx, h1, h2, h3⟩ := hs
      refine ⟨Bx, h1, (hg.block Bx (Array.getElem?_eq_some_iff.1 h2).1 (fun e => ?_)).trans h2, h3⟩
      obtain ⟨_, o, ho, hc⟩ := hr Bx e.symm
      rw [h2] at ho; cases ho; cases hc)
    ?assign ?body ?done ?stop
  case assign =>
    rintro l pre x W K ⟨⟨v, bV1, hr1, _⟩, hB1⟩ hK
    simp only [celA]
    gi_wp2
    exact hK _ _ ((KeepsOthers.alloc _ _).from _) (KpS.alloc _ _) ⟨⟨v, bV1.alloc _, hr1.alloc _, trivial⟩, hB1.alloc hB1.size _⟩ ⟨W.heap.size, bV1.lt, World.alloc_heap_new W _, rfl⟩
  case body =>
    rintro l pre x a' W hl0 ⟨r, hr⟩ ⟨⟨v, bV1, hr1, _⟩, hB1⟩ ⟨Bx, hBx, bX, rfl⟩ hlt
    have cV := bV1.cell
    have fV := bV1.frozen
    have c0 : W.cell? ⟨Bx, 0, none⟩ = some (.string (s.extract x.1.1 x.1.2.1)) := by simp [World.cell?, bX]
    have c1 : W.cell? ⟨Bx, 1, none⟩ = some (.int .i64 x.1.1) := by simp [World.cell?, bX]
    have c2 : W.cell? ⟨Bx, 2, none⟩ = some (.int .i64 x.1.2.2) := by simp [World.cell?, bX]
    have B1 : pre.length + 1 ≤ maxLen := by unfold maxLen; omega
    have B2 : (pre.length + 1) * 32 ≤ 140737488355328 := by omega
    have B3 : w.heap.size ≤ (W.alloc (.cells #[.string (s.extract x.1.1 x.1.2.1), .int .i64 x.1.1, .int .i64 x.1.2.2] 178)).heap.size := by have := hB1.size; simp; omega
    have H1 := Lib.hid B1
    have H2 := Lib.hid B2
    have H3 := Lib.hid B3
    have HR := Lib.hid hr1
    have HB := Lib.hid hB1
    have HBX := Lib.hid bX
    have HL := Lib.hid hr
    clear B1 B2 B3 hr1 hB1 bX hr
    gi_wp2_with (gi_at_builtin; go_loud (refine wpListIn_append_own _ rfl _ _ 176 rfl w.heap.size 178 i0 (.agg #[.string .empty, .int .i64 0, .int .i64 0]) 3 32 Tryz.underlying176 hi hz0 hz1 hz2 rfl (by decide) _ _ _ rfl (HR.out.alloc _) ⟨W.heap.size, 0, none⟩ 1 1 (celV s x.1) rfl rfl (cells_new _ _ _) (celV_one s x.1) H1.out H2.out H3.out ?_); intro v' w1 hown' hgrow _; obtain ⟨g', cap', rfl⟩ := ownsRow_succ hown'; obtain ⟨hv1, hv2, hr2, hk2, hb2⟩ := bV1.appended (by decide) HR.out HB.out.size (Nat.le_refl _) hown' hgrow; have hc1 := hv1.cell; have hf1 := hv1.frozen)
    refine ⟨hk2.from _, KpS.t (KpS.t (KpS.alloc W _) (KpS.grown hgrow (own_noWalk (HR.out.alloc _)) ?_)) (KpS.set _ _ _ _ (by omega)), ⟨⟨_, hv2, ?_, trivial⟩, HB.out.trans hb2⟩⟩
    · intro e
      have := (HR.out.lt B e.symm).1
      omega
    · rw [List.map_append, List.length_append]
      show World.ownsRow _ _ _ _ _ (_ + 1) (celsV s (_ ++ [x.1]))
      rw [celsV_snoc]
      exact hr2
  case done =>
    rintro D ys W hD hys ⟨⟨v, bV1, hr1, _⟩, hB1⟩ hK
    have cV := bV1.cell
    rw [hys, show ys.length = (cells s).length by rw [← hys]; simp] at hr1
    have HR := Lib.hid hr1
    clear hr1
    gi_wp2
    refine ⟨by simp, .inl ⟨_, _, rfl, run_takeDeferred hK, ?_⟩⟩
    exact ⟨_, results_tmp rfl _ _ _, v, rfl, ownsRow_putObj HR.out _ hK rfl, hB1.trans (belowK_b (w := w) (Nat.le_refl _) W D _ _ (by omega) hK rfl rfl)⟩
  case stop =>
    rintro D c pre W _ _ h _
    exact h.elim

set_option maxRecDepth 100000 in
set_option maxHeartbeats 1000000 in
theorem collect_pro (s : ByteArray) (B : Nat) (w : World) (hs : s.size ≤ 16777216) (hB : w.cell? ⟨B, 0, none⟩ = some (.string s)) :
    Calls Tryz.prog 140 #[.func (.func 174) #[] #[.pointer (some ⟨B, 0, none⟩)]] w (RowIs 178 3 (cells s).length (celsV s (cells s)) w) := by
  have HS := Lib.hid hs
  have HB := Lib.hid hB
  clear hs hB
  go_enter Tryz.func140, Tryz.ntmps140
  go_wp2_with fail
  refine (callsIn_wide.1 (append_in s B _ HS.out HB.out)).mono ?_
  rintro e w1 ⟨v, rfl, hr, hb⟩
  have HR := Lib.hid hr
  have HZ := Lib.hid hb
  clear hr hb
  go_wp2_with fail
  go_ret
  exact ⟨v, rfl, HR.out, HZ.out⟩

set_option maxRecDepth 100000 in
set_option maxHeartbeats 1000000 in
theorem cells_pro (s : ByteArray) (w : World) (hs : s.size ≤ 16777216) :
    Calls Tryz.prog 108 #[.string s] w (RowIs 178 3 (cells s).length (celsV s (cells s)) w) := by
  have HS := Lib.hid hs
  clear hs
  go_enter Tryz.func108, Tryz.ntmps108
  go_wp2_with fail
  refine (callsIn_wide.1 (cells_in 1 s _)).mono ?_
  rintro e w1 ⟨rfl, rfl⟩
  have hb : (w.alloc (.cells #[.string s] 9)).cell? ⟨w.heap.size, 0, none⟩ = some (.string s) := (Boxed.new w 9 (.string s)).cell
  have HB := Lib.hid hb
  clear hb
  go_wp2_with fail
  refine (collect_pro s w.heap.size _ HS.out HB.out).mono ?_
  rintro e w2 ⟨v, rfl, hr, hb⟩
  have HR := Lib.hid hr
  have HZ := Lib.hid hb
  clear hr hb
  go_wp2_with fail
  go_ret
  have h1 : Below w.heap.size w (w.alloc (.cells #[.string s] 9)) := (Below.refl _ w).alloc (Nat.le_refl _) _
  exact ⟨v, rfl, World.ownsRow.mono HR.out (by simp), h1.trans (HZ.out.mono (by simp))⟩
end Go.Proofs.YtalomeialegmiaaGreatDoor
end
