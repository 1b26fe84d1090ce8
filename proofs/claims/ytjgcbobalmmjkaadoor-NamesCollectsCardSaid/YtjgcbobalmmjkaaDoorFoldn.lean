/- Fold of the document's answer for layer 2. -/
import Derived.Test.YtjgcbobalmmjkaaDoorCharsn
import Derived.Deep.QuietTactic
import Derived.BigQuiet
import Derived.WalkLawsBesides
import Derived.Laws.Cover4
import Derived.IntWalk
namespace Go.Proofs.YtjgcbobalmmjkaaDoor
open Go.RowKit Go.Maps

theorem one32 : (ByteArray.mk #[32]).size = 1 := rfl
theorem ret_strF {a b : ByteArray} (h : a = b) : Ending.returned (.string a) = Ending.returned (.string b) := by rw [h]
/-- What Fold lays for one character. -/
def foldCh (s : ByteArray) (c : Ch) : ByteArray := if badB c then s.extract c.1 (c.1 + 1) else Utf8.encode (sml c.2.1)
/-- What has been laid, and whether a blank waits. -/
def foldStep (s : ByteArray) (st : ByteArray × Bool) (c : Ch) : ByteArray × Bool :=
  if c.2.1 = 32 then (st.1, !st.1.toList.isEmpty) else ((if st.2 then st.1 ++ ⟨#[32]⟩ else st.1) ++ foldCh s c, false)
def foldOf (s : ByteArray) (l : List Ch) : ByteArray × Bool := l.foldl (foldStep s) (ByteArray.empty, false)
def fold (s : ByteArray) : ByteArray := (foldOf s (chars s)).1
theorem foldOf_take {s : ByteArray} {l : List Ch} {k : Nat} {c : Ch} (h : l[k]? = some c) : foldOf s (l.take (k + 1)) = foldStep s (foldOf s (l.take k)) c := by
  obtain ⟨hk, e⟩ := List.getElem?_eq_some_iff.1 h
  unfold foldOf
  rw [List.take_succ_eq_append_getElem hk, List.foldl_append, e]
  rfl

end Go.Proofs.YtjgcbobalmmjkaaDoor
