/- Wide and Cut of the document's answer for layer 2. -/
import Derived.Test.YtoeknophfcfahaaGreatDoorCellsn
namespace Go.Proofs.YtoeknophfcfahaaGreatDoor
open Go.RowKit Go.Maps

theorem cells_len (s : ByteArray) : (cells s).length ≤ s.size := by
  have h := celsOf_len (chars s) (chars s).length
  rw [List.take_length] at h
  exact Nat.le_trans h (chars_len s)
theorem sumW_take_bd (s : ByteArray) (k : Nat) : 0 ≤ sumW ((cells s).take k) ∧ sumW ((cells s).take k) ≤ 2 * k := by
  have h := sumW_bd ((cells s).take k) fun y hy => cel_wide (chars s) y (List.mem_of_mem_take hy)
  have : ((cells s).take k).length ≤ k := by simp; omega
  omega
theorem sumW_take {l : List Cel} {k : Nat} {y : Cel} (h : l[k]? = some y) : sumW (l.take (k + 1)) = sumW (l.take k) + y.2.2 := by
  obtain ⟨hk, e⟩ := List.getElem?_eq_some_iff.1 h
  rw [List.take_succ_eq_append_getElem hk, sumW_snoc, e]
/-- How wide a text is. -/
def wide (s : ByteArray) : Int := sumW (cells s)

/-- How many whole cells fit, from the k-th on, n cells being taken. -/
def cutAt (wide : Int) : List Cel → Int → Option Cel
  | [], _ => none
  | y :: l, n => if n + y.2.2 > wide then some y else cutAt wide l (n + y.2.2)
def cut (s : ByteArray) (m : Int) : ByteArray × ByteArray :=
  match cutAt m (cells s) 0 with
  | some y => (s.extract 0 y.1, s.extract y.1 s.size)
  | none => (s, ByteArray.empty)
theorem cutAt_drop {l : List Cel} {k : Nat} {y : Cel} (h : l[k]? = some y) (m n : Int) : cutAt m (l.drop k) n = if n + y.2.2 > m then some y else cutAt m (l.drop (k + 1)) (n + y.2.2) := by
  obtain ⟨hk, e⟩ := List.getElem?_eq_some_iff.1 h
  rw [List.drop_eq_getElem_cons hk, e]
  rfl
theorem cel_place (s : ByteArray) (y : Cel) (h : y ∈ cells s) : y.1 ≤ s.size := by
  have key : ∀ (l : List Ch) (out : List Cel), (∀ c ∈ l, c.1 ≤ s.size) → (∀ y ∈ out, y.1 ≤ s.size) → ∀ y ∈ l.foldl celStep out, y.1 ≤ s.size := by
    intro l
    induction l with
    | nil => intro out _ h; exact h
    | cons c l ih =>
      intro out hc h
      apply ih _ fun c hm => hc c (by simp [hm])
      have hcs := hc c (by simp)
      rcases List.eq_nil_or_concat out with h0 | ⟨i0, y0, h0⟩
      · subst h0
        intro y hy
        rw [celStep_nil] at hy
        simp at hy
        subst hy; exact hcs
      · rw [List.concat_eq_append] at h0
        subst h0
        intro y hy
        by_cases hz : wid c.2.1 = 0
        · rw [celStep_more _ _ _ hz] at hy
          simp only [List.mem_append, List.mem_singleton] at hy
          rcases hy with hy | rfl
          · exact h y (by simp [hy])
          · exact h y0 (by simp)
        · rw [celStep_new _ _ hz] at hy
          simp only [List.mem_append, List.mem_singleton] at hy
          rcases hy with hy | rfl
          · exact h y (by simpa using hy)
          · exact hcs
  exact key (chars s) [] (fun c hc => by have := (chars_at s c hc).1; omega) (by simp) y h
def IsCut (s : ByteArray) (m : Int) (w : World) (e : Ending) (w' : World) : Prop :=
  e = .returned (.tuple #[.string (cut s m).1, .string (cut s m).2]) ∧ Below w.heap.size w w'
theorem isCut_some {s : ByteArray} {m : Int} {w w' : World} {y : Cel} (h : cutAt m (cells s) 0 = some y) (hb : Below w.heap.size w w') :
    IsCut s m w (.returned (.tuple #[.string (s.extract 0 y.1), .string (s.extract y.1 s.size)])) w' := by
  unfold IsCut cut; rw [h]; exact ⟨rfl, hb⟩
theorem isCut_none {s : ByteArray} {m : Int} {w w' : World} (h : cutAt m (cells s) 0 = none) (hb : Below w.heap.size w w') :
    IsCut s m w (.returned (.tuple #[.string s, .string ⟨#[]⟩])) w' := by
  unfold IsCut cut; rw [h]; exact ⟨rfl, hb⟩

end Go.Proofs.YtoeknophfcfahaaGreatDoor
