/- The program's iterator over a text's cells (layer 2): what it hands the body of a loop, and in which order. -/
import Derived.Test.YtoeknophfcfahaaGreatDoorPsmln
import Derived.Test.YtoeknophfcfahaaGreatDoorWordsn
import Derived.RangeFuncNested
import Derived.RangeFuncBound
import Derived.RangeFuncCalls
import Derived.RangeFuncLeaves
import Derived.RangeFuncBox
import Derived.Shelf.Abstract
import Derived.Shelf.RegionOpen
import Derived.OwnWalkIn
import Derived.TacticsInMore
import Derived.LoopNIn
import Derived.LoopIn
namespace Go.Proofs.YtoeknophfcfahaaGreatDoor
open Go.RowKit Go.Shelf

attribute [local go_sem] Oper.semAt_some

/-- A cell of the text s, with what a loop over cells needs of it. -/
abbrev SCel (s : ByteArray) := { y : Cel // (y.2.2 = 1 ∨ y.2.2 = 2) ∧ y.1 ≤ y.2.1 ∧ y.2.1 ≤ s.size }
def celA (s : ByteArray) (y : Cel) : Value := .agg #[.string (s.extract y.1 y.2.1), .int .i64 y.1, .int .i64 y.2.2]
/-- What a round of a loop over cells keeps: the walks that are under way, and the variable that holds the text. -/
def KpS (B : Nat) (W W' : World) : Prop := KeepsWalks W W' ∧ ∀ v, W.cell? ⟨B, 0, none⟩ = some v → W'.cell? ⟨B, 0, none⟩ = some v
theorem KpS.t {B : Nat} {X Y Z : World} (h : KpS B X Y) (k : KpS B Y Z) : KpS B X Z := ⟨h.1.trans k.1, fun v e => k.2 v (h.2 v e)⟩
theorem KpS.put {B : Nat} (W : World) (l : Nat) (o o' : Obj) (h : W.heap[l]? = some o) (hc : o.isCells = false) (hw : o.isWalk = false) : KpS B W (W.putObj l o') := by
  refine ⟨KeepsWalks.putObj _ h hw, fun v e => ?_⟩
  have hne : B ≠ l := by
    rintro rfl
    unfold World.cell? at e
    rw [h] at e
    cases o <;> simp_all [Obj.isCells]
  unfold World.cell? at e ⊢
  simp only [] at e ⊢
  rw [World.putObj_heap_other hne]
  exact e
/-- Cells that have been told, and the one that waits. -/
def Waits (acc : List Ch) (pos : Nat) (pre : List Cel) (a w : Value) : Prop :=
  (acc = [] ∧ pos = 0 ∧ pre = [] ∧ a = .int .i64 0 ∧ w = .int .i64 0) ∨ (0 < pos ∧ ∃ (b : Nat) (m : Int), celsOf acc = pre ++ [(b, pos, m)] ∧ a = .int .i64 b ∧ w = .int .i64 m)

theorem cel_keep : ∀ (l : List Ch) (out : List Cel) (z : Cel), out <+: l.foldl celStep (out ++ [z])
  | [], out, z => ⟨[z], rfl⟩
  | c :: l, out, z => by
    rw [List.foldl_cons]
    by_cases hz : wid c.2.1 = 0
    · rw [celStep_more _ _ _ hz]; exact cel_keep l out _
    · rw [celStep_new _ _ hz]; exact List.IsPrefix.trans ⟨[z], rfl⟩ (cel_keep l (out ++ [z]) _)
/-- What has come before a character of some width stays. -/
theorem cel_told (l : List Ch) (c : Ch) (r : List Ch) (h : ¬ wid c.2.1 = 0) : celsOf l <+: celsOf (l ++ c :: r) := by
  unfold celsOf
  rw [List.foldl_append, List.foldl_cons, celStep_new _ _ h]
  exact cel_keep r _ _
/-- What waits is a cell of the text. -/
theorem waits_ok {s : ByteArray} {acc rest : List Ch} {pre : List Cel} {y : Cel} (h : acc ++ rest = chars s) (e : celsOf acc = pre ++ [y]) : (y.2.2 = 1 ∨ y.2.2 = 2) ∧ y.1 ≤ y.2.1 ∧ y.2.1 ≤ s.size := by
  have ht : (chars s).take acc.length = acc := by rw [← h]; simp
  have hl : acc.length ≤ (chars s).length := by rw [← h]; simp
  refine ⟨cel_wide acc y (by rw [e]; simp), ?_⟩
  have := celsOf_last s acc.length hl pre y (by rw [ht]; exact e)
  exact this.2
theorem iter_cell {wr : World} {k B : Nat} {s : ByteArray} {pos pos' : Nat} {v : Value} (hit : wr.heap[k]? = some (.stringIter s pos)) (h : wr.cell? ⟨B, 0, none⟩ = some v) : (wr.iterAt k s pos').cell? ⟨B, 0, none⟩ = some v ∧ B ≠ k := by
  have hne : B ≠ k := by
    rintro rfl
    unfold World.cell? at h
    rw [hit] at h
    simp at h
  refine ⟨?_, hne⟩
  have e : (wr.iterAt k s pos').heap[B]? = wr.heap[B]? := Array.getElem?_setIfInBounds_ne (Ne.symm hne)
  unfold World.cell? at h ⊢
  simp only [] at h ⊢
  rw [e]
  exact h
theorem notEmpty {s : ByteArray} (h : 0 < s.size) : s.toList.isEmpty = false := by
  have e : s.toList = s.data.toList := ByteArray.toList_eq s
  rw [e]
  cases hd : s.data.toList with
  | nil => exact absurd (show s.size = 0 by have : s.data.size = 0 := by rw [← Array.length_toList, hd]; rfl
                                            exact this) (by omega)
  | cons _ _ => rfl
theorem cell_lt {w : World} {b o : Nat} {v : Value} (h : w.cell? ⟨b, o, none⟩ = some v) : b < w.heap.size := by
  unfold World.cell? at h
  simp only [] at h
  split at h
  · rename_i e; exact (Array.getElem?_eq_some_iff.1 e).1
  · cases h
theorem cell_more {w : World} {b o : Nat} {v : Value} (h : w.cell? ⟨b, o, none⟩ = some v) (x : Obj) : (w.alloc x).cell? ⟨b, o, none⟩ = some v :=
  (((Below.refl _ w).alloc (Nat.le_refl _) x).cell (p := ⟨b, o, none⟩) (cell_lt h)).trans h
theorem iter_grown (w : World) (k : Nat) (s : ByteArray) (pos : Nat) : w.grownBy (w.iterAt k s pos) (some k) := grownBy_putObj' w k (.stringIter s pos)

end Go.Proofs.YtoeknophfcfahaaGreatDoor
