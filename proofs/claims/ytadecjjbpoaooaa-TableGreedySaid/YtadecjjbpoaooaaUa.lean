/- Layer 12, plain: glyphs, lines, how a flow fills lines. -/
import Derived.WalkKit
namespace Go.Proofs.Ytadecjjbpoaooaa.Tb
set_option linter.unusedVariables false
set_option linter.unusedSimpArgs false

structure Gl where
  t : ByteArray
  wd : Int
  at_ : Int
  co : Int
  lk : Int
  deriving DecidableEq
def bl1 (c : UInt8) : ByteArray := ⟨#[c]⟩
def isB (g : Gl) : Bool := g.t.toList == [32]
def isT (g : Gl) : Bool := g.t.toList == [9]
def isN (g : Gl) : Bool := g.t.toList == [10]
/-- A blank, a tab or a break. -/
def noS (g : Gl) : Bool := isB g || isT g || isN g
def blank (g : Gl) : Gl := ⟨bl1 32, 1, g.at_, g.co, g.lk⟩
def fitG (wide : Int) (g : Gl) : Gl := if wide < g.wd then ⟨bl1 63, 1, g.at_, g.co, g.lk⟩ else g
def badG (g : Gl) : Bool := !noS g && (g.t.toList == [] || !(decide (1 ≤ g.wd) && decide (g.wd ≤ 2)))
def wid : List Gl → Int
  | [] => 0
  | g :: l => g.wd + wid l
/-- Lines that were told, the one that grows, the blank that waits. -/
structure Fs where
  out : List (List Gl)
  line : List Gl
  wait : List Gl
def fs0 : Fs := ⟨[], [], []⟩
def endS (s : Fs) : Fs := ⟨s.out ++ [s.line], [], []⟩
def endU (s : Fs) : Fs := if s.line = [] then s else endS s
def putS (s : Fs) (g : Gl) : Fs := { s with line := s.line ++ [g] }
def signS (wide : Int) (s : Fs) (g : Gl) : Fs := if wide < wid s.line + g.wd then putS (endS s) g else putS s g
def roomS (wide : Int) (s : Fs) (w : List Gl) : Fs := if wide < wid s.line + wid s.wait + wid w then endU s else s
def laidS (s : Fs) : Fs := ⟨s.out, s.line ++ s.wait, []⟩
def wordS (wide : Int) (s : Fs) (w : List Gl) : Fs := w.foldl (signS wide) (laidS (roomS wide s w))
def stopOf (s : Fs) : Int := wid s.line / 8 * 8 + 8
def tabS (wide : Int) (s : Fs) (g : Gl) : Fs := if stopOf s < wide then ⟨s.out, s.line ++ List.replicate (stopOf s - wid s.line).toNat (blank g), []⟩ else endS s
def waitS (s : Fs) (g : Gl) : Fs := if s.line ≠ [] ∧ s.wait = [] then { s with wait := [blank g] } else s
def stepS (wide : Int) (s : Fs) (g : Gl) : Fs := if isB g then waitS s g else if isT g then tabS wide s g else endS s
def sgn (g : Gl) : Bool := !noS g
def firstW (l : List Gl) : List Gl := l.takeWhile sgn
def runS (wide : Int) : Nat → Fs → List Gl → Fs
  | 0, s, _ => s
  | _ + 1, s, [] => s
  | n + 1, s, g :: l => if sgn g then runS wide n (wordS wide s ((firstW (g :: l)).map (fitG wide))) ((g :: l).drop (firstW (g :: l)).length) else runS wide n (stepS wide s g) l
def fillM (wide : Int) (l : List Gl) : List (List Gl) := (endU (runS wide l.length fs0 l)).out
/-- Fill: the lines and the error's number. -/
def fillE (wide : Int) (l : List Gl) : Int := if wide < 1 ∨ 200 < wide then 1 else if l.any badG then 120 else 0
def fillL (wide : Int) (l : List Gl) : List (List Gl) := if fillE wide l = 0 then fillM wide l else []

theorem wid_app (a b : List Gl) : wid (a ++ b) = wid a + wid b := by
  induction a with
  | nil => simp [wid]
  | cons g a ih => simp only [List.cons_append, wid, ih]; omega
theorem wid_one (g : Gl) : wid [g] = g.wd := by simp [wid]
theorem wid_rep (g : Gl) (n : Nat) : wid (List.replicate n g) = n * g.wd := by
  induction n with
  | zero => simp [wid]
  | succ n ih => rw [List.replicate_succ, wid, ih]; rw [show ((n + 1 : Nat) : Int) = (n : Int) + 1 by omega, Int.add_mul]; omega
/-- What holds of a filling at any time. -/
structure Inv (wide : Int) (s : Fs) : Prop where
  wd : ∀ g ∈ s.line, 1 ≤ g.wd ∧ g.wd ≤ 2
  ww : ∀ g ∈ s.wait, g.wd = 1
  wl : s.wait.length ≤ 1
  we : s.line = [] → s.wait = []
  le : wid s.line ≤ wide
theorem wid_ge : ∀ l : List Gl, (∀ g ∈ l, 1 ≤ g.wd ∧ g.wd ≤ 2) → (l.length : Int) ≤ wid l ∧ wid l ≤ 2 * l.length
  | [], _ => by simp [wid]
  | g :: l, h => by
    have := wid_ge l fun x hx => h x (List.mem_cons_of_mem _ hx)
    have := h g (by simp)
    simp only [wid, List.length_cons]
    omega
theorem Inv.len {wide : Int} {s : Fs} (h : Inv wide s) : (s.line.length : Int) ≤ wide := Int.le_trans (wid_ge _ h.wd).1 h.le
theorem Inv.nn {wide : Int} {s : Fs} (h : Inv wide s) : 0 ≤ wid s.line := by have := (wid_ge _ h.wd).1; omega
theorem Inv.wwait {wide : Int} {s : Fs} (h : Inv wide s) : wid s.wait = s.wait.length := by
  have h1 := h.wl
  have h2 := h.ww
  match hs : s.wait with
  | [] => simp [wid]
  | [g] => rw [hs] at h2; have := h2 g (by simp); simp [wid, this]
  | _ :: _ :: _ => rw [hs] at h1; simp at h1
theorem inv0 {wide : Int} (hw : 0 ≤ wide) : Inv wide fs0 := ⟨fun _ h => absurd h (by simp [fs0]), fun _ h => absurd h (by simp [fs0]), by simp [fs0], fun _ => rfl, by simp [fs0, wid, hw]⟩
theorem Inv.ended {wide : Int} {s : Fs} (h : Inv wide s) (hw : 0 ≤ wide) : Inv wide (endS s) := ⟨fun _ h => absurd h (by simp [endS]), fun _ h => absurd h (by simp [endS]), by simp [endS], fun _ => rfl, by simp [endS, wid, hw]⟩
theorem Inv.endedU {wide : Int} {s : Fs} (h : Inv wide s) (hw : 0 ≤ wide) : Inv wide (endU s) := by
  unfold endU
  split
  · exact h
  · exact h.ended hw
theorem Inv.put {wide : Int} {s : Fs} (h : Inv wide s) {g : Gl} (hg : 1 ≤ g.wd ∧ g.wd ≤ 2) (hf : wid s.line + g.wd ≤ wide) : Inv wide (putS s g) := by
  refine ⟨fun x hx => ?_, h.ww, h.wl, fun e => absurd e (by simp [putS]), by simp only [putS]; rw [wid_app, wid_one]; exact hf⟩
  rcases List.mem_append.1 hx with hx | hx
  · exact h.wd x hx
  · rw [List.mem_singleton] at hx
    subst hx
    exact hg
theorem Inv.sign {wide : Int} {s : Fs} (h : Inv wide s) {g : Gl} (hg : 1 ≤ g.wd ∧ g.wd ≤ 2) (hf : g.wd ≤ wide) : Inv wide (signS wide s g) := by
  unfold signS
  split
  · exact (h.ended (by omega)).put hg (by simp [endS, wid]; exact hf)
  · exact h.put hg (by omega)
/-- Lines so far. -/
def meas (s : Fs) : Nat := s.out.length + if s.line = [] then 0 else 1
theorem meas0 : meas fs0 = 0 := rfl
theorem meas_end (s : Fs) : meas (endS s) = s.out.length + 1 := by simp [meas, endS]
theorem meas_endU (s : Fs) : meas (endU s) = meas s := by
  unfold endU
  split
  · rfl
  · rename_i h; rw [meas_end]; simp [meas, h]
theorem meas_put (s : Fs) (g : Gl) : meas (putS s g) = s.out.length + 1 := by simp [meas, putS]
theorem out_le (s : Fs) : s.out.length ≤ meas s := by unfold meas; omega
theorem meas_le (s : Fs) : meas s ≤ s.out.length + 1 := by unfold meas; split <;> omega
theorem meas_sign (wide : Int) (s : Fs) (g : Gl) (hg : 1 ≤ g.wd) (hf : g.wd ≤ wide) : meas (signS wide s g) ≤ meas s + 1 ∧ (signS wide s g).out.length ≤ meas s := by
  unfold signS
  have h1 := out_le s
  split
  · rename_i h
    rw [meas_put]
    have : s.line ≠ [] := by intro e; rw [e] at h; simp [wid] at h; omega
    simp [endS, putS, meas, this]
  · rw [meas_put]
    simp only [putS]
    omega
theorem roomS_inv {wide : Int} {s : Fs} (h : Inv wide s) (w : List Gl) (hw : 0 ≤ wide) : Inv wide (roomS wide s w) := by
  unfold roomS
  split
  · exact h.endedU hw
  · exact h
theorem meas_room (wide : Int) (s : Fs) (w : List Gl) : meas (roomS wide s w) = meas s := by
  unfold roomS
  split
  · exact meas_endU s
  · rfl
theorem room_fits {wide : Int} {s : Fs} (h : Inv wide s) (w : List Gl) (hw : 0 ≤ wide) (hn : 0 ≤ wid w) : wid (roomS wide s w).line + wid (roomS wide s w).wait ≤ wide := by
  unfold roomS
  split
  · unfold endU
    split
    · rename_i e; rw [e, h.we e]; simp [wid, hw]
    · simp [endS, wid, hw]
  · omega
theorem laid_inv {wide : Int} {s : Fs} (h : Inv wide s) (hf : wid s.line + wid s.wait ≤ wide) : Inv wide (laidS s) := by
  refine ⟨fun g hg => ?_, fun _ h => absurd h (by simp [laidS]), by simp [laidS], fun _ => rfl, by simp only [laidS]; rw [wid_app]; exact hf⟩
  rcases List.mem_append.1 hg with hg | hg
  · exact h.wd g hg
  · have := h.ww g hg; omega
theorem meas_laid {wide : Int} {s : Fs} (h : Inv wide s) : meas (laidS s) = meas s := by
  unfold meas laidS
  simp only [List.append_eq_nil_iff]
  by_cases e : s.line = []
  · simp [e, h.we e]
  · simp [e]
theorem foldl_sign_inv {wide : Int} : ∀ (w : List Gl) (s : Fs), Inv wide s → (∀ g ∈ w, (1 ≤ g.wd ∧ g.wd ≤ 2) ∧ g.wd ≤ wide) → Inv wide (w.foldl (signS wide) s) ∧ meas (w.foldl (signS wide) s) ≤ meas s + w.length
  | [], s, h, _ => ⟨h, Nat.le_refl _⟩
  | g :: w, s, h, hw => by
    have hg := hw g (by simp)
    have h1 := foldl_sign_inv w (signS wide s g) (h.sign hg.1 hg.2) fun x hx => hw x (List.mem_cons_of_mem _ hx)
    have h2 := (meas_sign wide s g hg.1.1 hg.2).1
    refine ⟨h1.1, ?_⟩
    have := h1.2
    simp only [List.foldl_cons, List.length_cons]
    omega
theorem wordS_inv {wide : Int} {s : Fs} (h : Inv wide s) (hw : 0 ≤ wide) {w : List Gl} (hg : ∀ g ∈ w, (1 ≤ g.wd ∧ g.wd ≤ 2) ∧ g.wd ≤ wide) : Inv wide (wordS wide s w) ∧ meas (wordS wide s w) ≤ meas s + w.length := by
  have hn := (wid_ge w fun g hx => (hg g hx).1).1
  have h1 := roomS_inv h w hw
  have h2 := laid_inv h1 (room_fits h w hw (by omega))
  have h3 := foldl_sign_inv w _ h2 hg
  rw [meas_laid h1, meas_room] at h3
  exact h3
theorem fit_ok {wide : Int} {g : Gl} (h1 : 1 ≤ wide) (hb : badG g = false) (hs : sgn g = true) : (1 ≤ (fitG wide g).wd ∧ (fitG wide g).wd ≤ 2) ∧ (fitG wide g).wd ≤ wide := by
  unfold sgn at hs
  unfold badG at hb
  rw [hs] at hb
  simp at hb
  unfold fitG
  split
  · simp; omega
  · omega
theorem tab_inv {wide : Int} {s : Fs} (h : Inv wide s) (g : Gl) (hw : 0 ≤ wide) : Inv wide (tabS wide s g) := by
  unfold tabS
  split
  · rename_i hs
    have h0 := h.nn
    refine ⟨fun x hx => ?_, fun _ h => absurd h (by simp), by simp, fun _ => rfl, ?_⟩
    · rcases List.mem_append.1 hx with hx | hx
      · exact h.wd x hx
      · rw [List.mem_replicate] at hx
        rw [hx.2]
        simp [blank]
    · simp only
      rw [wid_app, wid_rep]
      unfold stopOf at hs ⊢
      simp only [blank, Int.mul_one]
      omega
  · exact h.ended hw
theorem meas_tab (wide : Int) (s : Fs) (g : Gl) : meas (tabS wide s g) ≤ meas s + 1 := by
  have h1 := out_le s
  unfold tabS
  split
  · have := meas_le ⟨s.out, s.line ++ List.replicate (stopOf s - wid s.line).toNat (blank g), []⟩
    simp only at this
    omega
  · rw [meas_end]; omega
theorem stepS_inv {wide : Int} {s : Fs} (h : Inv wide s) (g : Gl) (hw : 0 ≤ wide) : Inv wide (stepS wide s g) ∧ meas (stepS wide s g) ≤ meas s + 1 := by
  unfold stepS
  split
  · unfold waitS
    split
    · rename_i _ hc
      refine ⟨⟨h.wd, fun x hx => ?_, by simp, fun e => absurd e hc.1, h.le⟩, ?_⟩
      · simp at hx
        rw [hx]
        rfl
      · have : meas { s with wait := [blank g] } = meas s := rfl
        omega
    · exact ⟨h, Nat.le_succ _⟩
  · split
    · exact ⟨tab_inv h g hw, meas_tab wide s g⟩
    · exact ⟨h.ended hw, by rw [meas_end]; have := out_le s; omega⟩
theorem firstW_le (l : List Gl) : (firstW l).length ≤ l.length := (List.takeWhile_sublist _).length_le
theorem firstW_pos {g : Gl} {l : List Gl} (h : sgn g = true) : 0 < (firstW (g :: l)).length := by simp [firstW, List.takeWhile_cons, h]
theorem firstW_pre (l : List Gl) : l.take (firstW l).length = firstW l := by
  have : firstW l <+: l := List.takeWhile_prefix _
  exact (List.prefix_iff_eq_take.1 this).symm
theorem firstW_all (l : List Gl) : ∀ g ∈ firstW l, sgn g = true := by
  intro g hg
  exact List.all_eq_true.1 List.all_takeWhile g hg
theorem firstW_sub (l : List Gl) : ∀ g ∈ firstW l, g ∈ l := fun g hg => (List.takeWhile_sublist _).mem hg
theorem runS_more (wide : Int) : ∀ (n m : Nat) (s : Fs) (l : List Gl), l.length ≤ n → l.length ≤ m → runS wide n s l = runS wide m s l
  | n, m, s, [], _, _ => by cases n <;> cases m <;> rfl
  | 0, _, _, _ :: _, h, _ => absurd h (by simp)
  | _, 0, _, _ :: _, _, h => absurd h (by simp)
  | n + 1, m + 1, s, g :: l, h1, h2 => by
    unfold runS
    split
    · rename_i hs
      have := firstW_pos (l := l) hs
      simp only [List.length_cons] at h1 h2
      exact runS_more wide n m _ _ (by simp only [List.length_drop, List.length_cons]; omega) (by simp only [List.length_drop, List.length_cons]; omega)
    · exact runS_more wide n m _ _ (by simpa using h1) (by simpa using h2)
/-- From here on. -/
def runF (wide : Int) (s : Fs) (l : List Gl) : Fs := runS wide l.length s l
theorem runF_nil (wide : Int) (s : Fs) : runF wide s [] = s := rfl
theorem runF_word (wide : Int) (s : Fs) (g : Gl) (l : List Gl) (h : sgn g = true) : runF wide s (g :: l) = runF wide (wordS wide s ((firstW (g :: l)).map (fitG wide))) ((g :: l).drop (firstW (g :: l)).length) := by
  have := firstW_pos (l := l) h
  unfold runF
  rw [show (g :: l).length = l.length + 1 from rfl, runS, if_pos h]
  exact runS_more wide _ _ _ _ (by simp only [List.length_drop, List.length_cons]; omega) (Nat.le_refl _)
theorem runF_step (wide : Int) (s : Fs) (g : Gl) (l : List Gl) (h : sgn g = false) : runF wide s (g :: l) = runF wide (stepS wide s g) l := by
  unfold runF
  rw [show (g :: l).length = l.length + 1 from rfl, runS, if_neg (by simp [h])]
theorem fillM_eq (wide : Int) (l : List Gl) : fillM wide l = (endU (runF wide fs0 l)).out := rfl
/-- A word that fits is put as it is. -/
theorem foldl_fits {wide : Int} : ∀ (w : List Gl) (s : Fs), (∀ g ∈ w, 1 ≤ g.wd ∧ g.wd ≤ 2) → wid s.line + wid w ≤ wide → w.foldl (signS wide) s = { s with line := s.line ++ w }
  | [], s, _, _ => by simp
  | g :: w, s, hw, h => by
    have hg := hw g (by simp)
    have hn := (wid_ge w fun x hx => hw x (List.mem_cons_of_mem _ hx)).1
    simp only [wid] at h
    have e : signS wide s g = putS s g := by unfold signS; rw [if_neg (by omega)]
    rw [List.foldl_cons, e, foldl_fits w _ (fun x hx => hw x (List.mem_cons_of_mem _ hx)) (by simp only [putS]; rw [wid_app, wid_one]; omega)]
    simp [putS]
end Go.Proofs.Ytadecjjbpoaooaa.Tb
