/- Layer 12, plain: without tabs no line ends with a blank. -/
import Derived.Test.YtadecjjbpoaooaaVp
namespace Go.Proofs.Ytadecjjbpoaooaa.Tb
open Go
set_option linter.unusedVariables false
set_option linter.unusedSimpArgs false
def NoEnd (r : List Gl) : Prop := ∀ g, r.getLast? = some g → isB g = false
def EndOk (s : Fs) : Prop := (∀ r ∈ s.out, NoEnd r) ∧ NoEnd s.line
theorem noEnd_nil : NoEnd [] := fun g h => by simp at h
theorem sgn_notB {g : Gl} (h : sgn g = true) : isB g = false := by
  unfold sgn noS at h
  cases e : isB g
  · rfl
  · simp [e] at h
theorem noEnd_snoc (r : List Gl) {g : Gl} (h : sgn g = true) : NoEnd (r ++ [g]) := fun x hx => by
  rw [List.getLast?_concat] at hx
  cases hx
  exact sgn_notB h
theorem noEnd_app (r : List Gl) {w : List Gl} (hw : w ≠ []) (h : ∀ g ∈ w, sgn g = true) : NoEnd (r ++ w) := by
  obtain ⟨a, b, rfl⟩ : ∃ a b, w = a ++ [b] := ⟨w.dropLast, w.getLast hw, (List.dropLast_concat_getLast hw).symm⟩
  rw [← List.append_assoc]
  exact noEnd_snoc _ (h b (by simp))
theorem endOk_end {s : Fs} (h : EndOk s) : EndOk (endS s) := by
  refine ⟨fun r hr => ?_, noEnd_nil⟩
  rcases List.mem_append.1 hr with hr | hr
  · exact h.1 r hr
  · rw [List.mem_singleton] at hr
    rw [hr]; exact h.2
theorem endOk_endU {s : Fs} (h : EndOk s) : EndOk (endU s) := by
  unfold endU
  split
  · exact h
  · exact endOk_end h
theorem endOk_sign {wide : Int} {s : Fs} {g : Gl} (h : EndOk s) (hg : sgn g = true) : EndOk (signS wide s g) := by
  unfold signS
  split
  · exact ⟨(endOk_end h).1, noEnd_snoc _ hg⟩
  · exact ⟨h.1, noEnd_snoc _ hg⟩
theorem endOk_foldl {wide : Int} : ∀ (w : List Gl) (s : Fs), EndOk s → (∀ g ∈ w, sgn g = true) → EndOk (w.foldl (signS wide) s)
  | [], s, h, _ => h
  | g :: w, s, h, hw => endOk_foldl w (signS wide s g) (endOk_sign h (hw g (by simp))) fun x hx => hw x (List.mem_cons_of_mem _ hx)
theorem foldl_put {wide : Int} : ∀ (w : List Gl) (s : Fs), (∀ g ∈ w, 1 ≤ g.wd ∧ g.wd ≤ 2) → wid s.line + wid w ≤ wide → w.foldl (signS wide) s = ⟨s.out, s.line ++ w, s.wait⟩
  | [], s, _, _ => by simp
  | g :: w, s, hw, h => by
    have h1 := (wid_ge w fun x hx => hw x (List.mem_cons_of_mem _ hx)).1
    simp only [wid] at h
    have e : signS wide s g = putS s g := by
      unfold signS
      rw [if_neg (by omega)]
    rw [List.foldl_cons, e, foldl_put w (putS s g) (fun x hx => hw x (List.mem_cons_of_mem _ hx)) (by simp only [putS, wid_app, wid_one]; omega)]
    simp [putS]
theorem endOk_word {wide : Int} {s : Fs} {w : List Gl} (h : EndOk s) (hi : Inv wide s) (hw : ∀ g ∈ w, (1 ≤ g.wd ∧ g.wd ≤ 2) ∧ sgn g = true) (hn : w ≠ []) : EndOk (wordS wide s w) := by
  unfold wordS roomS
  split
  · have e : (endU s).wait = [] ∧ EndOk (endU s) := by
      refine ⟨?_, endOk_endU h⟩
      unfold endU
      split
      · rename_i e; exact hi.we e
      · rfl
    have e2 : laidS (endU s) = ⟨(endU s).out, (endU s).line, []⟩ := by unfold laidS; rw [e.1, List.append_nil]
    rw [e2]
    exact endOk_foldl w _ e.2 fun g hg => (hw g hg).2
  · rename_i hf
    rw [foldl_put w (laidS s) (fun g hg => (hw g hg).1) (by simp only [laidS, wid_app]; omega)]
    exact ⟨h.1, noEnd_app _ hn fun g hg => (hw g hg).2⟩
theorem endOk_step {wide : Int} {s : Fs} (h : EndOk s) {g : Gl} (ht : isT g = false) : EndOk (stepS wide s g) := by
  unfold stepS
  split
  · unfold waitS
    split
    · exact h
    · exact h
  · rw [if_neg (by simp [ht])]
    exact endOk_end h
theorem endOk_run {wide : Int} (h1 : 1 ≤ wide) : ∀ (n : Nat) (s : Fs) (l : List Gl), EndOk s → Inv wide s → (∀ y ∈ l, badG y = false) → (∀ y ∈ l, isT y = false) → EndOk (runS wide n s l)
  | 0, s, l, h, _, _, _ => h
  | n + 1, s, [], h, _, _, _ => h
  | n + 1, s, g :: l, h, hi, hb, ht => by
    unfold runS
    split
    · rename_i hsg
      have hg : ∀ x ∈ (firstW (g :: l)).map (fitG wide), (1 ≤ x.wd ∧ x.wd ≤ 2) ∧ x.wd ≤ wide := fun x hx => by
        obtain ⟨y, hy, rfl⟩ := List.mem_map.1 hx
        exact fit_ok h1 (hb y (firstW_sub _ y hy)) (firstW_all _ y hy)
      have hn : (firstW (g :: l)).map (fitG wide) ≠ [] := fun e => by
        have := firstW_pos (l := l) hsg
        have e2 := congrArg List.length e
        rw [List.length_map] at e2
        simp at e2
        rw [e2] at this
        simp at this
      have hw : ∀ x ∈ (firstW (g :: l)).map (fitG wide), (1 ≤ x.wd ∧ x.wd ≤ 2) ∧ sgn x = true := fun x hx => by
        refine ⟨(hg x hx).1, ?_⟩
        obtain ⟨y, hy, rfl⟩ := List.mem_map.1 hx
        exact sgn_fit (firstW_all _ y hy)
      exact endOk_run h1 n _ _ (endOk_word h hi hw hn) (wordS_inv hi (by omega) hg).1 (fun y hy => hb y (List.mem_of_mem_drop hy)) (fun y hy => ht y (List.mem_of_mem_drop hy))
    · exact endOk_run h1 n _ l (endOk_step h (ht g (by simp))) (stepS_inv hi g (by omega)).1 (fun y hy => hb y (List.mem_cons_of_mem _ hy)) (fun y hy => ht y (List.mem_cons_of_mem _ hy))
/-- Without tabs no line ends with a blank. -/
theorem fill_noEnd {wide : Int} {l : List Gl} (h : fillE wide l = 0) (ht : ∀ y ∈ l, isT y = false) : ∀ r ∈ fillM wide l, NoEnd r := by
  obtain ⟨hw, hb⟩ := fillE_ok h
  exact (endOk_endU (endOk_run hw.1 l.length fs0 l ⟨fun r hr => absurd hr (by simp [fs0]), noEnd_nil⟩ (inv0 (by omega)) hb ht)).1
end Go.Proofs.Ytadecjjbpoaooaa.Tb
