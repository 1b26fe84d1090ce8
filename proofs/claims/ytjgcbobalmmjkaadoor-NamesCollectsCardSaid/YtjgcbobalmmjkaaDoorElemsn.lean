/- Elements of the document's answer for layer 2. -/
import Derived.Test.YtjgcbobalmmjkaaDoorOrdn
import Derived.Test.YtjgcbobalmmjkaaDoorBasen
import Derived.Laws.Cover4
namespace Go.Proofs.YtjgcbobalmmjkaaDoor
open Go.RowKit Go.Maps

def isDig (c : Ch) : Bool := inB c.2.1 48 57
def digStep (d : ByteArray) (c : Ch) : ByteArray := if !d.toList.isEmpty || (c.2.1 : Int) != 48 then d ++ Utf8.encode c.2.1 else d
/-- The digits at the head of a list, without noughts ahead, and the rest. -/
def runD : List Ch → ByteArray → ByteArray × List Ch
  | [], d => (d, [])
  | c :: l, d => if isDig c then runD l (digStep d c) else (d, c :: l)
def clsOf (r : Int) : Int := if inB r 97 122 || (decide (192 ≤ r) && (r != 215 && r != 247)) then 2 else 0
def elOf (c : Ch) : El := ⟨clsOf c.2.1, c.2.1, ByteArray.empty⟩
def elemsF : Nat → List Ch → List El
  | 0, _ => []
  | _ + 1, [] => []
  | f + 1, c :: l => if isDig c then ⟨1, 0, (runD (c :: l) ByteArray.empty).1⟩ :: elemsF f (runD (c :: l) ByteArray.empty).2
    else if wid c.2.1 = 0 then elemsF f l else (chars (bas c.2.1)).map elOf ++ elemsF f l
def elems (s : ByteArray) : List El := elemsF ((chars s).length + 1) (chars s)
def elC (x : El) : List Value := [.int .i64 x.cls, .int .i32 x.code, .string x.digs]
def elsV (l : List El) : List Value := l.flatMap elC
theorem elsV_len (l : List El) : (elsV l).length = l.length * 3 := by
  induction l with
  | nil => rfl
  | cons a l ih => simp [elsV, elC] at ih ⊢; omega
theorem elsV_snoc (l : List El) (y : El) : elsV (l ++ [y]) = elsV l ++ elC y := by simp [elsV]
theorem elC_one (y : El) : ∀ u ∈ elC y, u.oneCell' = true := by
  intro u hu; simp [elC] at hu; rcases hu with rfl | rfl | rfl <;> rfl
theorem elsV_get : ∀ (l : List El) (i : Nat) (y : El), l[i]? = some y → (elsV l)[i * 3]? = some (.int .i64 y.cls) ∧ (elsV l)[i * 3 + 1]? = some (.int .i32 y.code) ∧ (elsV l)[i * 3 + 2]? = some (.string y.digs)
  | [], i, y, h => by simp at h
  | a :: l, 0, y, h => by simp at h; subst h; simp [elsV, elC]
  | a :: l, i + 1, y, h => by
    have ih := elsV_get l i y (by simpa using h)
    have e : elsV (a :: l) = elC a ++ elsV l := by simp [elsV]
    have hl : (elC a).length = 3 := rfl
    rw [e, List.getElem?_append_right (by omega), List.getElem?_append_right (by omega), List.getElem?_append_right (by omega), hl, show (i + 1) * 3 - 3 = i * 3 by omega, show (i + 1) * 3 + 1 - 3 = i * 3 + 1 by omega, show (i + 1) * 3 + 2 - 3 = i * 3 + 2 by omega]
    exact ih
theorem own_ne {w : World} {b b' : Nat} {e e' : TypeId} {s s' : Nat} {v v' : Value} {n n' : Nat} {xs xs' : List Value} (h : w.ownsRow b e s v n xs) (h' : w.ownsRow b' e' s' v' n' xs') (hne : e ≠ e') : v.ownBlock = none ∨ v.ownBlock ≠ v'.ownBlock := by
  rcases h.2 with ⟨rfl, _⟩ | ⟨g, cap, cur, rfl, _, hg, _⟩
  · exact .inl rfl
  · refine .inr fun e1 => ?_
    rcases h'.2 with ⟨rfl, _⟩ | ⟨g', cap', cur', rfl, _, hg', _⟩
    · simp [Value.ownBlock] at e1
    · simp [Value.ownBlock] at e1
      subst e1
      rw [hg] at hg'
      injection hg' with hg'
      injection hg' with _ ht
      exact hne ht
theorem ite_size {p : Prop} [Decidable p] {a b : ByteArray} {n : Nat} (ha : a.size ≤ n) (hb : b.size ≤ n) : (if p then a else b).size ≤ n := by split <;> assumption
theorem bas_size (r : Int) : (bas r).size ≤ 4 := by
  unfold bas basOf
  repeat (first | exact encode_size_le _ | refine ite_size (Nat.le_of_ble_eq_true rfl) ?_)
theorem runD_drop {l : List Ch} {k : Nat} {c : Ch} (h : l[k]? = some c) (hd : isDig c = true) (d : ByteArray) : runD (l.drop k) d = runD (l.drop (k + 1)) (digStep d c) := by
  obtain ⟨hk, e⟩ := List.getElem?_eq_some_iff.1 h
  rw [List.drop_eq_getElem_cons hk, e]
  simp [runD, hd]
theorem runD_stop {l : List Ch} {k : Nat} {c : Ch} (h : l[k]? = some c) (hd : isDig c = false) (d : ByteArray) : runD (l.drop k) d = (d, l.drop k) := by
  obtain ⟨hk, e⟩ := List.getElem?_eq_some_iff.1 h
  rw [List.drop_eq_getElem_cons hk, e]
  simp [runD, hd]
theorem elemsF_drop {l : List Ch} {k f : Nat} {c : Ch} (h : l[k]? = some c) : elemsF (f + 1) (l.drop k) = if isDig c then ⟨1, 0, (runD (l.drop k) ByteArray.empty).1⟩ :: elemsF f (runD (l.drop k) ByteArray.empty).2
    else if wid c.2.1 = 0 then elemsF f (l.drop (k + 1)) else (chars (bas c.2.1)).map elOf ++ elemsF f (l.drop (k + 1)) := by
  obtain ⟨hk, e⟩ := List.getElem?_eq_some_iff.1 h
  have h1 : l.drop k = c :: l.drop (k + 1) := by rw [List.drop_eq_getElem_cons hk, e]
  rw [h1]
  rfl
end Go.Proofs.YtjgcbobalmmjkaaDoor
