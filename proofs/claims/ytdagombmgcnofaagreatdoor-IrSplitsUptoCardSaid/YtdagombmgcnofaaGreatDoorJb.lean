/- Layer 11: the program's Join, where it answers. -/
import Derived.Test.YtdagombmgcnofaaGreatDoorJa
namespace Go.Proofs.YtdagombmgcnofaaGreatDoor.Ir
open Go.RowKit Go.Maps Go.Proofs.YtdagombmgcnofaaGreatDoor
set_option linter.unusedVariables false
set_option linter.unusedSimpArgs false
/-- Of which the first k have their texts again. -/
def mix (l : List Opr) (k : Nat) : List Opr := l.take k ++ (l.drop k).map bareO
theorem mix_len (l : List Opr) (k : Nat) : (mix l k).length = l.length := by unfold mix; simp; omega
theorem mix_zero (l : List Opr) : mix l 0 = l.map bareO := by simp [mix]
theorem mix_full (l : List Opr) : mix l l.length = l := by simp [mix]
theorem mix_eq {l : List Opr} {k : Nat} (h : k < l.length) : mix l k = l.take k ++ (bareO l[k] :: (l.drop (k + 1)).map bareO) := by unfold mix; rw [List.drop_eq_getElem_cons h, List.map_cons]
theorem mix_at {l : List Opr} {k : Nat} (h : k < l.length) : (mix l k)[k]'(by rw [mix_len]; exact h) = bareO l[k] := by
  have hl : (l.take k).length = k := by simp; omega
  simp only [mix_eq h]
  rw [List.getElem_append_right (by omega)]
  have h0 : k - (l.take k).length = 0 := by omega
  simp only [h0, List.getElem_cons_zero]
theorem mix_succ {l : List Opr} {k : Nat} (h : k < l.length) : mix l (k + 1) = (mix l k).set k l[k] := by
  have hl : (l.take k).length = k := by simp; omega
  rw [mix_eq h, List.set_append_right _ _ (by omega), hl, Nat.sub_self, List.set_cons_zero]
  unfold mix
  rw [List.take_succ_eq_append_getElem h, List.append_assoc]
  rfl
theorem longsL_drop {l : List Opr} {k : Nat} (h : k < l.length) : longsL (l.drop k) = (if l[k].k = 1 then [(l[k].t.size : Int)] else []) ++ longsL (l.drop (k + 1)) := by
  rw [List.drop_eq_getElem_cons h]; rfl
theorem textL_drop {l : List Opr} {k : Nat} (h : k < l.length) : textL (l.drop k) = (if l[k].k = 1 then l[k].t.data.toList else []) ++ textL (l.drop (k + 1)) := by
  rw [List.drop_eq_getElem_cons h]; rfl
theorem longsL_bare (l : List Opr) : (longsL (l.map bareO)).length = (longsL l).length := by
  induction l with
  | nil => rfl
  | cons x l ih =>
    simp only [List.map_cons, longsL, List.length_append, ih]
    by_cases h : x.k = 1
    · simp [bareO, h]
    · simp [bareO, h]
theorem str_size (t : ByteArray) (R : List UInt8) : (⟨(t.data.toList ++ R).toArray⟩ : ByteArray).size = t.size + R.length := by
  show (t.data.toList ++ R).toArray.size = t.data.size + R.length
  simp
theorem str_front (t : ByteArray) (R : List UInt8) : (⟨(t.data.toList ++ R).toArray⟩ : ByteArray).extract 0 t.size = t := by
  apply ByteArray.ext
  rw [ByteArray.data_extract]
  show Array.extract (t.data.toList ++ R).toArray 0 t.data.size = t.data
  apply Array.ext'
  simp
theorem str_back (t : ByteArray) (R : List UInt8) : (⟨(t.data.toList ++ R).toArray⟩ : ByteArray).extract t.size (t.size + R.length) = ⟨R.toArray⟩ := by
  apply ByteArray.ext
  rw [ByteArray.data_extract]
  show Array.extract (t.data.toList ++ R).toArray t.data.size (t.data.size + R.length) = R.toArray
  apply Array.ext'
  simp
/-- Of a list of numbers the first is left off. -/
theorem RdZ.tail {P : Nat → Prop} {w : World} {b off cap : Nat} {z : Int} {zs : List Int} (h : RdZ P w (.slice (some ⟨b, off, none⟩) (zs.length + 1) cap) (z :: zs)) : RdZ P w (.slice (some ⟨b, off + 1, none⟩) zs.length (cap - 1)) zs ∧ (cap = 1 → ∀ pa, RdZ P w (.slice pa zs.length 0) zs) := by
  obtain ⟨pa, cap', e, h1, h2, h4⟩ := h
  cases e
  simp only [List.length_cons] at h1 h4
  refine ⟨⟨_, _, rfl, by omega, by omega, fun j hj => ?_⟩, fun e1 pa => ?_⟩
  · obtain ⟨b', o', e, hp, hc⟩ := h4 (j + 1) (by omega)
    cases e
    refine ⟨_, _, rfl, hp, ?_⟩
    rw [show off + 1 + j = off + (j + 1) by omega]
    exact hc
  · have h0 : zs = [] := List.eq_nil_of_length_eq_zero (by omega)
    subst h0
    exact ⟨pa, 0, rfl, Nat.le_refl _, Nat.zero_le _, fun j hj => absurd hj (by simp)⟩
def MakesJ (l : List Opr) (w : World) (e : Ending) (w' : World) : Prop := ∃ v ps, e = .returned (.tuple #[v, .int .i64 0]) ∧ OwnO w.heap.size w' v ps ∧ ps.map (·.1) = l ∧ Below w.heap.size w w'
end Go.Proofs.YtdagombmgcnofaaGreatDoor.Ir
