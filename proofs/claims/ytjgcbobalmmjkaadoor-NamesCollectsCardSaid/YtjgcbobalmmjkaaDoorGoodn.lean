/- Good and Plain of the document's answer for layer 2: the first character that is bad, or not plain. -/
import Derived.Test.YtjgcbobalmmjkaaDoorCharsn
namespace Go.Proofs.YtjgcbobalmmjkaaDoor
open Go.RowKit Go.Maps

theorem find_at {p : Ch → Bool} : ∀ {l : List Ch} {k : Nat} {c : Ch}, l[k]? = some c → p c = true → (∀ j d, j < k → l[j]? = some d → p d = false) → l.find? p = some c
  | [], k, c, h, _, _ => by simp at h
  | a :: l, 0, c, h, hp, _ => by simp at h; subst h; simp [hp]
  | a :: l, k + 1, c, h, hp, hn => by
    have ha : p a = false := hn 0 a (by omega) rfl
    rw [List.find?_cons, ha]
    exact find_at (by simpa using h) hp fun j d hj hd => hn (j + 1) d (by omega) (by simpa using hd)
theorem find_no {p : Ch → Bool} {l : List Ch} (hn : ∀ j d, j < l.length → l[j]? = some d → p d = false) : l.find? p = none := by
  rw [List.find?_eq_none]
  intro x hx
  obtain ⟨j, hj, e⟩ := List.getElem_of_mem hx
  have := hn j x hj (by rw [List.getElem?_eq_getElem hj, e])
  simp [this]
def placeOf (o : Option Ch) : Int := match o with | some c => c.1 | none => 0
def unplain (c : Ch) : Bool := badB c || ctl c.2.1
/-- What Good and Plain answer, by what is looked for. -/
def Finds (p : Ch → Bool) (s : ByteArray) (w : World) (e : Ending) (w' : World) : Prop :=
  e = .returned (.tuple #[.int .i64 (placeOf ((chars s).find? p)), .bool ((chars s).find? p).isNone]) ∧ Below w.heap.size w w'
theorem finds_at {p : Ch → Bool} {s : ByteArray} {w w' : World} {k : Nat} {c : Ch} (h : (chars s)[k]? = some c) (hp : p c = true) (hn : ∀ j d, j < k → (chars s)[j]? = some d → p d = false) (hb : Below w.heap.size w w') :
    Finds p s w (.returned (.tuple #[.int .i64 c.1, .bool false])) w' := by
  unfold Finds
  rw [find_at h hp hn]
  exact ⟨rfl, hb⟩
theorem finds_no {p : Ch → Bool} {s : ByteArray} {w w' : World} (hn : ∀ j d, j < (chars s).length → (chars s)[j]? = some d → p d = false) (hb : Below w.heap.size w w') :
    Finds p s w (.returned (.tuple #[.int .i64 0, .bool true])) w' := by
  unfold Finds
  rw [find_no hn]
  exact ⟨rfl, hb⟩

end Go.Proofs.YtjgcbobalmmjkaaDoor
