/- Layer 12, plain: filling loses no sign. -/
import Derived.Test.YtadecjjbpoaooaaVa
import Derived.Lib.Strings
namespace Go.Proofs.Ytadecjjbpoaooaa.Tb
open Go
set_option linter.unusedVariables false
set_option linter.unusedSimpArgs false
/-- The signs of lines. -/
def sgs (ls : List (List Gl)) : List Gl := ls.flatten.filter sgn
def sg (s : Fs) : List Gl := (s.out.flatten ++ s.line).filter sgn
def WaitOk (s : Fs) : Prop := ∀ g ∈ s.wait, sgn g = false
theorem bl1_list (c : UInt8) : (bl1 c).toList = [c] := by
  rw [Lib.toList_data]
  rfl
theorem sgn_blank (g : Gl) : sgn (blank g) = false := by
  unfold sgn noS isB blank
  rw [bl1_list]
  rfl
theorem sgn_fit {wide : Int} {g : Gl} (h : sgn g = true) : sgn (fitG wide g) = true := by
  unfold fitG
  split
  · unfold sgn noS isB isT isN
    simp only [bl1_list]
    rfl
  · exact h
theorem sg_end (s : Fs) : sg (endS s) = sg s := by simp [sg, endS]
theorem sg_endU (s : Fs) : sg (endU s) = sg s := by
  unfold endU
  split
  · rfl
  · exact sg_end s
theorem sg_put (s : Fs) {g : Gl} (h : sgn g = true) : sg (putS s g) = sg s ++ [g] := by
  unfold sg putS
  rw [← List.append_assoc, List.filter_append, List.filter_cons_of_pos h]
  rfl
theorem sg_sign (wide : Int) (s : Fs) {g : Gl} (h : sgn g = true) : sg (signS wide s g) = sg s ++ [g] := by
  unfold signS
  split
  · rw [sg_put _ h, sg_end]
  · exact sg_put s h
theorem wait_sign (wide : Int) (s : Fs) (g : Gl) (h : s.wait = []) : (signS wide s g).wait = [] := by
  unfold signS
  split
  · rfl
  · exact h
theorem sg_foldl (wide : Int) : ∀ (w : List Gl) (s : Fs), (∀ g ∈ w, sgn g = true) → s.wait = [] → sg (w.foldl (signS wide) s) = sg s ++ w ∧ (w.foldl (signS wide) s).wait = []
  | [], s, _, hw => ⟨by simp, hw⟩
  | g :: w, s, h, hw => by
    have h0 := h g (by simp)
    obtain ⟨h1, h2⟩ := sg_foldl wide w (signS wide s g) (fun x hx => h x (List.mem_cons_of_mem _ hx)) (wait_sign wide s g hw)
    exact ⟨by rw [List.foldl_cons, h1, sg_sign wide s h0]; simp, h2⟩
theorem room_keep (wide : Int) (s : Fs) (w : List Gl) (h : WaitOk s) : sg (roomS wide s w) = sg s ∧ WaitOk (roomS wide s w) := by
  unfold roomS
  split
  · refine ⟨sg_endU s, ?_⟩
    unfold endU
    split
    · exact h
    · exact fun g hg => absurd hg (by simp [endS])
  · exact ⟨rfl, h⟩
theorem filter_no {l : List Gl} (h : ∀ g ∈ l, sgn g = false) : l.filter sgn = [] := List.filter_eq_nil_iff.2 fun g hg => by simp [h g hg]
theorem sg_laid (s : Fs) (h : WaitOk s) : sg (laidS s) = sg s := by
  unfold sg laidS
  rw [← List.append_assoc, List.filter_append, filter_no h, List.append_nil]
theorem sg_word (wide : Int) (s : Fs) (w : List Gl) (h : WaitOk s) (hw : ∀ g ∈ w, sgn g = true) : sg (wordS wide s w) = sg s ++ w ∧ WaitOk (wordS wide s w) := by
  obtain ⟨r1, r2⟩ := room_keep wide s w h
  obtain ⟨f1, f2⟩ := sg_foldl wide w (laidS (roomS wide s w)) hw rfl
  unfold wordS
  refine ⟨by rw [f1, sg_laid _ r2, r1], ?_⟩
  intro g hg
  rw [f2] at hg
  exact absurd hg (by simp)
theorem sg_step (wide : Int) (s : Fs) (g : Gl) (h : WaitOk s) : sg (stepS wide s g) = sg s ∧ WaitOk (stepS wide s g) := by
  unfold stepS
  split
  · unfold waitS
    split
    · refine ⟨rfl, fun x hx => ?_⟩
      have : x = blank g := by simpa using hx
      rw [this]; exact sgn_blank g
    · exact ⟨rfl, h⟩
  · split
    · unfold tabS
      split
      · refine ⟨?_, fun x hx => absurd hx (by simp)⟩
        unfold sg
        have hn : (List.replicate (stopOf s - wid s.line).toNat (blank g)).filter sgn = [] := filter_no fun x hx => by
          have := (List.mem_replicate.1 hx).2
          rw [this]; exact sgn_blank g
        rw [← List.append_assoc, List.filter_append, hn, List.append_nil]
      · exact ⟨sg_end s, fun x hx => absurd hx (by simp [endS])⟩
    · exact ⟨sg_end s, fun x hx => absurd hx (by simp [endS])⟩
theorem firstW_eq (l : List Gl) : firstW l ++ l.drop (firstW l).length = l := by
  unfold firstW
  induction l with
  | nil => rfl
  | cons g l ih =>
    rw [List.takeWhile_cons]
    split
    · simp only [List.cons_append, List.length_cons, List.drop_succ_cons, ih]
    · rfl
theorem firstW_sgn : ∀ (l : List Gl), ∀ g ∈ firstW l, sgn g = true
  | [], g, h => absurd h (by simp [firstW])
  | x :: l, g, h => by
    unfold firstW at h
    rw [List.takeWhile_cons] at h
    split at h
    · rename_i hx
      rcases List.mem_cons.1 h with e | h
      · rw [e]; exact hx
      · exact firstW_sgn l g h
    · exact absurd h (by simp)
theorem sg_run (wide : Int) : ∀ (n : Nat) (s : Fs) (l : List Gl), l.length ≤ n → WaitOk s → sg (runS wide n s l) = sg s ++ (l.filter sgn).map (fitG wide)
  | 0, s, l, hl, _ => by
    have : l = [] := List.eq_nil_of_length_eq_zero (by omega)
    subst this
    simp [runS]
  | n + 1, s, [], _, _ => by simp [runS]
  | n + 1, s, g :: l, hl, h => by
    unfold runS
    split
    · rename_i hg
      have hp := firstW_pos (l := l) hg
      obtain ⟨w1, w2⟩ := sg_word wide s ((firstW (g :: l)).map (fitG wide)) h (fun x hx => by
        obtain ⟨y, hy, rfl⟩ := List.mem_map.1 hx
        exact sgn_fit (firstW_sgn _ y hy))
      rw [sg_run wide n _ _ (by rw [List.length_drop]; simp only [List.length_cons] at hl ⊢; omega) w2, w1]
      have e : (g :: l).filter sgn = firstW (g :: l) ++ ((g :: l).drop (firstW (g :: l)).length).filter sgn := by
        conv => lhs; rw [← firstW_eq (g :: l)]
        rw [List.filter_append, List.filter_eq_self.2 (firstW_sgn _)]
      rw [e, List.map_append, List.append_assoc]
    · rename_i hg
      obtain ⟨s1, s2⟩ := sg_step wide s g h
      rw [sg_run wide n _ l (by simpa using hl) s2, s1, List.filter_cons_of_neg hg]
/-- Nothing is lost: the lines' signs are the flow's, what is too wide another sign. -/
theorem fill_keeps (wide : Int) (l : List Gl) : sgs (fillM wide l) = (l.filter sgn).map (fitG wide) := by
  have h := sg_run wide l.length fs0 l (Nat.le_refl _) (fun g hg => absurd hg (by simp [fs0]))
  rw [← sg_endU] at h
  unfold fillM sgs
  have e : (endU (runS wide l.length fs0 l)).line = [] := by
    unfold endU
    split
    · assumption
    · rfl
  unfold sg at h
  rw [e, List.append_nil] at h
  rw [h]
  simp [fs0]
end Go.Proofs.Ytadecjjbpoaooaa.Tb
