/- The characters of a text: Chars of the document's answer for layer 2. -/
import Derived.Test.YtjgcbobalmmjkaaDoorSmalln
import Derived.Test.YtjgcbobalmmjkaaDoorChsn
import Derived.Lib.OthersKept
import Derived.WalkSmall
import Derived.Outline
import Derived.Deep.AppendLies
import Derived.Laws.OwnMore
import Derived.Deep.Onto
import Derived.Deep.DeepMust
namespace Go.Proofs.YtjgcbobalmmjkaaDoor
open Go.RowKit Go.Maps

theorem raw_one (c : Ch) : ∀ u ∈ raw c, u.oneCell' = true := by
  intro u hu; simp [raw] at hu; rcases hu with rfl | rfl | rfl | rfl <;> rfl
theorem cells_new (w : World) (cs : Array Value) (t : TypeId) (j : Nat) (u : Value) (h : cs.toList[j]? = some u) : (w.alloc (.cells cs t)).cell? ((⟨w.heap.size, 0, none⟩ : Addr).add j) = some u := by
  have h' : cs[j]? = some u := by simpa using h
  by_cases hj : j = 0
  · subst hj; simp [Addr.add, h']
  · simp [Addr.add, hj, h']

theorem bad_true {c : Ch} (h : (c.2.1 : Int) = 65533) : ((c.2.2 : Int) == 1) = badB c := by
  have : c.2.1 = 65533 := by omega
  rw [Bool.eq_iff_iff]; simp [badB, this]; omega
theorem bad_false {c : Ch} (h : ¬ (c.2.1 : Int) = 65533) : false = badB c := by
  have : ¬ c.2.1 = 65533 := by omega
  simp [badB, this]
theorem own_below {w w' : World} {base : Nat} {e : TypeId} {size : Nat} {v : Value} {n : Nat} {xs : List Value} (h : w.ownsRow base e size v n xs) (hb : Below w.heap.size w w') : w'.ownsRow base e size v n xs := by
  refine ⟨h.1, ?_⟩
  rcases h.2 with h0 | ⟨g, cap, cur, h1, h2, h3, h4⟩
  · exact .inl h0
  · exact .inr ⟨g, cap, cur, h1, h2, (hb.block g (Array.getElem?_eq_some_iff.1 h3).1).trans h3, h4⟩
end Go.Proofs.YtjgcbobalmmjkaaDoor
