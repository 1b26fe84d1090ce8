/- sign, bytes, first, codes of the document's answer for layer 2: how parts of two texts compare. -/
import Derived.Test.YtjgcbobalmmjkaaDoorCharsn
import Derived.Deep.QuietTactic
import Derived.BigQuiet
import Derived.IntWalk
import Derived.WalkLawsBesides
namespace Go.Proofs.YtjgcbobalmmjkaaDoor
open Go.RowKit Go.Maps

def sgn (a b : Int) : Int := if a < b then -1 else if b < a then 1 else 0
/-- Two lists, one by one; what is a beginning of the other stands ahead. -/
def cmpL {α : Type} (f : α → α → Int) : List α → List α → Int
  | [], [] => 0
  | [], _ :: _ => -1
  | _ :: _, [] => 1
  | x :: l, y :: m => if f x y = 0 then cmpL f l m else f x y
theorem cmpL_end {α : Type} (f : α → α → Int) (l m : List α) (k : Nat) (h : ¬ (k < l.length ∧ k < m.length)) (hl : k ≤ l.length) (hm : k ≤ m.length) : cmpL f (l.drop k) (m.drop k) = sgn l.length m.length := by
  rcases Nat.lt_or_ge k l.length with h1 | h1
  · have h2 : ¬ k < m.length := fun h2 => h ⟨h1, h2⟩
    rw [List.drop_eq_getElem_cons h1, List.drop_of_length_le (by omega : m.length ≤ k)]
    simp only [cmpL, sgn]
    rw [if_neg (by omega), if_pos (by omega)]
  · rcases Nat.lt_or_ge k m.length with h2 | h2
    · rw [List.drop_of_length_le h1, List.drop_eq_getElem_cons h2]
      simp only [cmpL, sgn]
      rw [if_pos (by omega)]
    · rw [List.drop_of_length_le h1, List.drop_of_length_le h2]
      simp only [cmpL, sgn]
      rw [if_neg (by omega), if_neg (by omega)]
theorem cmpL_drop {α : Type} (f : α → α → Int) {l m : List α} {k : Nat} {x y : α} (hx : l[k]? = some x) (hy : m[k]? = some y) : cmpL f (l.drop k) (m.drop k) = if f x y = 0 then cmpL f (l.drop (k + 1)) (m.drop (k + 1)) else f x y := by
  obtain ⟨h1, e1⟩ := List.getElem?_eq_some_iff.1 hx
  obtain ⟨h2, e2⟩ := List.getElem?_eq_some_iff.1 hy
  rw [List.drop_eq_getElem_cons h1, List.drop_eq_getElem_cons h2, e1, e2]
  rfl
theorem ret_i {k : IntKind} {a b : Int} (h : a = b) : Ending.returned (.int k a) = Ending.returned (.int k b) := by rw [h]

def byteCmp (x y : UInt8) : Int := sgn x.toNat y.toNat
/-- Two texts by their bytes. -/
def bytesCmp (a b : ByteArray) : Int := cmpL byteCmp a.data.toList b.data.toList
theorem list_get (a : ByteArray) (k : Nat) (h : k < a.size) : a.data.toList[k]? = some a[k] := by
  have h' : k < a.data.size := h
  rw [List.getElem?_eq_getElem (by simpa using h')]
  rfl
theorem wrap_u8 (x : UInt8) : IntKind.i64.wrap (x.toNat : Int) = x.toNat := IntWalk.i64_in _ (by have := x.toNat_lt; omega)
theorem list_len (a : ByteArray) : a.data.toList.length = a.size := by simp
/-- A call that draws nothing, in a region behind another that has drawn. -/
theorem quiet_on {P : Program} {f : FuncId} {args : Array Value} {w : World} {a n : Nat} {v : Value}
    (h : Calls P f args (w.drewN (a + n)) fun e w' => e = .returned v ∧ w' = w.drewN (a + n)) :
    Calls P f args (w.drewN (a + n)) fun e w'' => e = .returned v ∧ ∃ m, w'' = w.drewN (a + m) :=
  h.mono fun _ _ ⟨he, hm⟩ => ⟨he, n, hm⟩
theorem sgn_ne {a b : Int} (h : a ≠ b) : sgn a b ≠ 0 := by unfold sgn; split <;> (try split) <;> omega
theorem sgn_self (a : Int) : sgn a a = 0 := by unfold sgn; rw [if_neg (by omega), if_neg (by omega)]

/-- An element of a text: a sign (0), a number (1), a letter (2); of a number its digits. -/
structure El where
  cls : Int
  code : Int
  digs : ByteArray
def elV (x : El) : Value := .agg #[.int .i64 x.cls, .int .i32 x.code, .string x.digs]
/-- How two elements compare. -/
def elCmp (x y : El) : Int :=
  if x.cls ≠ y.cls then sgn x.cls y.cls else if x.cls ≠ 1 then sgn x.code y.code else if x.digs.size ≠ y.digs.size then sgn x.digs.size y.digs.size else bytesCmp x.digs y.digs
theorem wrap_i32 (x : Int) (h : -2147483648 ≤ x ∧ x ≤ 2147483647) : wrap64 x = x := by unfold wrap64; omega

def codeCmp (small : Bool) (x y : Ch) : Int := if small then sgn (sml x.2.1) (sml y.2.1) else sgn x.2.1 y.2.1
theorem sml_range (r : Int) (h : -2147483648 ≤ r ∧ r ≤ 2147483647) : -2147483648 ≤ sml r ∧ sml r ≤ 2147483647 := by
  unfold sml
  split
  · rename_i h1
    have : r ≤ 1071 := by
      simp [inB] at h1
      omega
    omega
  · split
    · rename_i h1
      simp [inB] at h1
      omega
    · exact h

end Go.Proofs.YtjgcbobalmmjkaaDoor
