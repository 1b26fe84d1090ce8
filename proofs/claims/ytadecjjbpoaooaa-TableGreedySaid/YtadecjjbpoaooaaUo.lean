/- Layer 12: the document's Fill. -/
import Derived.Test.YtadecjjbpoaooaaUn
import Derived.Deep.CutRange
namespace Go.Proofs.Ytadecjjbpoaooaa.Tb
open Go.RowKit Go.Maps
set_option linter.unusedVariables false
set_option linter.unusedSimpArgs false
theorem Fl.fresh {d : Bool} {B g : Nat} {wide : Int} {K : Nat → Prop} {s : Fs} {W W' : World} (h : Fl d B g wide K s W) (hb : Below W.heap.size W W') : Fl d B g wide (fun c => K c ∨ (W.heap.size ≤ c ∧ c < W'.heap.size)) s W' := by
  obtain ⟨vo, vl, vw, vs, h⟩ := h
  have h' := h.below hb
  have n := h.ng
  refine ⟨vo, vl, vw, vs, h'.base, h'.blk, h'.line, h'.out, h'.wait, fun c hc => ?_⟩
  rcases hc with hc | hc
  · exact h'.apart c hc
  · exact ⟨hc.2, by omega, (fun e => by have := (own_base h.line e).2; omega), (fun e => by have := (own_base h.out.row e).2; omega)⟩
/-- A glyph that may not be, in the document's order. -/
theorem bad_eq (x : Gl) : badG x = (sgn x && (decide (x.wd < 1) || decide (2 < x.wd) || x.t.toList == [])) := by
  unfold badG sgn
  cases noS x
  · simp only [Bool.not_false, Bool.true_and]
    cases x.t.toList == []
    · by_cases h1 : x.wd < 1 <;> by_cases h2 : 2 < x.wd <;> simp [h1, h2] <;> omega
    · simp
  · rfl
def BadAt (l : List Gl) (k : Nat) : Prop := ∀ j (hj : j < l.length), j < k → badG l[j] = false
theorem BadAt.next {l : List Gl} {k : Nat} (h : BadAt l k) (hk : k < l.length) (hb : badG l[k] = false) : BadAt l (k + 1) := fun j hj hjk => by
  rcases Nat.lt_or_ge j k with h1 | h1
  · exact h j hj h1
  · obtain rfl : j = k := by omega
    exact hb
theorem BadAt.none {l : List Gl} {k : Nat} (h : BadAt l k) (hk : k = l.length) : l.any badG = false := by
  rw [List.any_eq_false]
  intro x hx
  obtain ⟨j, hj, rfl⟩ := List.mem_iff_getElem.1 hx
  simp [h j hj (by omega)]
theorem takeWhile_end {p : Gl → Bool} {l : List Gl} {h : (l.takeWhile p).length < l.length} (e : p (l[(l.takeWhile p).length]) = true) : False := by
  induction l with
  | nil => simp at h
  | cons x l ih =>
    cases hx : p x with
    | false => simp [List.takeWhile_cons, hx] at e
    | true =>
      have h1 : ((x :: l).takeWhile p) = x :: l.takeWhile p := by simp [List.takeWhile_cons, hx]
      simp only [h1, List.length_cons, List.getElem_cons_succ] at e h
      exact ih (h := by omega) e
theorem firstW_end (l : List Gl) (j : Nat) (h : j + (firstW (l.drop j)).length < l.length) : sgn (l[j + (firstW (l.drop j)).length]) = false := by
  have h1 : (l.drop j)[(firstW (l.drop j)).length]'(by rw [List.length_drop]; omega) = l[j + (firstW (l.drop j)).length] := List.getElem_drop
  rw [← h1]
  cases e : sgn ((l.drop j)[(firstW (l.drop j)).length]'(by rw [List.length_drop]; omega)) with
  | false => rfl
  | true => exact (takeWhile_end (h := by show (firstW (l.drop j)).length < _; rw [List.length_drop]; omega) e).elim
theorem bad_end {wide : Int} (hw : 1 ≤ wide ∧ wide ≤ 200) {l : List Gl} {k : Nat} (hk : k < l.length) (hb : badG l[k] = true) : fillE wide l = 120 ∧ fillL wide l = [] := by
  have h : l.any badG = true := List.any_eq_true.2 ⟨_, List.getElem_mem hk, hb⟩
  have : fillE wide l = 120 := by unfold fillE; rw [if_neg (by omega), h]; rfl
  exact ⟨this, by unfold fillL; rw [this]; rfl⟩
end Go.Proofs.Ytadecjjbpoaooaa.Tb
