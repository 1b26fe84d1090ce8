/- The texts that the laws of layout stand on, part 2. -/
import Derived.WalkKit
import Derived.Test.YtjohhahfpgfjdaaGreatDoorProg
import Derived.Lib.Hide
import Derived.IntWalk
import Derived.Laws.OwnMore
import Derived.Deep.AppendLies
import Derived.Below
import Derived.BigQuiet
import Derived.Deep.QuietTactic
import Derived.Maps.OwnSet
import Derived.Maps.OwnOps
import Derived.Maps.AppendAt
import Derived.WalkMore
import Derived.Lib.QuietBelow
import Derived.Deep.RegionLaw
section
namespace Go.Proofs.YtjohhahfpgfjdaaGreatDoor.Tb
set_option linter.unusedVariables false
set_option linter.unusedSimpArgs false

structure Gl where
  t : ByteArray
  wd : Int
  at_ : Int
  co : Int
  lk : Int
  deriving DecidableEq
def bl1 (c : UInt8) : ByteArray := ⟨#[c]⟩
def isB (g : Gl) : Bool := g.t.toList == [32]
def isT (g : Gl) : Bool := g.t.toList == [9]
def isN (g : Gl) : Bool := g.t.toList == [10]
/-- A blank, a tab or a break. -/
def noS (g : Gl) : Bool := isB g || isT g || isN g
def blank (g : Gl) : Gl := ⟨bl1 32, 1, g.at_, g.co, g.lk⟩
def fitG (wide : Int) (g : Gl) : Gl := if wide < g.wd then ⟨bl1 63, 1, g.at_, g.co, g.lk⟩ else g
def badG (g : Gl) : Bool := !noS g && (g.t.toList == [] || !(decide (1 ≤ g.wd) && decide (g.wd ≤ 2)))
def wid : List Gl → Int
  | [] => 0
  | g :: l => g.wd + wid l
/-- Lines that were told, the one that grows, the blank that waits. -/
structure Fs where
  out : List (List Gl)
  line : List Gl
  wait : List Gl
def fs0 : Fs := ⟨[], [], []⟩
def endS (s : Fs) : Fs := ⟨s.out ++ [s.line], [], []⟩
def endU (s : Fs) : Fs := if s.line = [] then s else endS s
def putS (s : Fs) (g : Gl) : Fs := { s with line := s.line ++ [g] }
def signS (wide : Int) (s : Fs) (g : Gl) : Fs := if wide < wid s.line + g.wd then putS (endS s) g else putS s g
def roomS (wide : Int) (s : Fs) (w : List Gl) : Fs := if wide < wid s.line + wid s.wait + wid w then endU s else s
def laidS (s : Fs) : Fs := ⟨s.out, s.line ++ s.wait, []⟩
def wordS (wide : Int) (s : Fs) (w : List Gl) : Fs := w.foldl (signS wide) (laidS (roomS wide s w))
def stopOf (s : Fs) : Int := wid s.line / 8 * 8 + 8
def tabS (wide : Int) (s : Fs) (g : Gl) : Fs := if stopOf s < wide then ⟨s.out, s.line ++ List.replicate (stopOf s - wid s.line).toNat (blank g), []⟩ else endS s
def waitS (s : Fs) (g : Gl) : Fs := if s.line ≠ [] ∧ s.wait = [] then { s with wait := [blank g] } else s
def stepS (wide : Int) (s : Fs) (g : Gl) : Fs := if isB g then waitS s g else if isT g then tabS wide s g else endS s
def sgn (g : Gl) : Bool := !noS g
def firstW (l : List Gl) : List Gl := l.takeWhile sgn
def runS (wide : Int) : Nat → Fs → List Gl → Fs
  | 0, s, _ => s
  | _ + 1, s, [] => s
  | n + 1, s, g :: l => if sgn g then runS wide n (wordS wide s ((firstW (g :: l)).map (fitG wide))) ((g :: l).drop (firstW (g :: l)).length) else runS wide n (stepS wide s g) l
def fillM (wide : Int) (l : List Gl) : List (List Gl) := (endU (runS wide l.length fs0 l)).out
/-- Fill: the lines and the error's number. -/
def fillE (wide : Int) (l : List Gl) : Int := if wide < 1 ∨ 200 < wide then 1 else if l.any badG then 120 else 0
def fillL (wide : Int) (l : List Gl) : List (List Gl) := if fillE wide l = 0 then fillM wide l else []

theorem wid_app (a b : List Gl) : wid (a ++ b) = wid a + wid b := by
  induction a with
  | nil => simp [wid]
  | cons g a ih => simp only [List.cons_append, wid, ih]; omega
theorem wid_one (g : Gl) : wid [g] = g.wd := by simp [wid]
theorem wid_rep (g : Gl) (n : Nat) : wid (List.replicate n g) = n * g.wd := by
  induction n with
  | zero => simp [wid]
  | succ n ih => rw [List.replicate_succ, wid, ih]; rw [show ((n + 1 : Nat) : Int) = (n : Int) + 1 by omega, Int.add_mul]; omega
/-- What holds of a filling at any time. -/
structure Inv (wide : Int) (s : Fs) : Prop where
  wd : ∀ g ∈ s.line, 1 ≤ g.wd ∧ g.wd ≤ 2
  ww : ∀ g ∈ s.wait, g.wd = 1
  wl : s.wait.length ≤ 1
  we : s.line = [] → s.wait = []
  le : wid s.line ≤ wide
theorem wid_ge : ∀ l : List Gl, (∀ g ∈ l, 1 ≤ g.wd ∧ g.wd ≤ 2) → (l.length : Int) ≤ wid l ∧ wid l ≤ 2 * l.length
  | [], _ => by simp [wid]
  | g :: l, h => by
    have := wid_ge l fun x hx => h x (List.mem_cons_of_mem _ hx)
    have := h g (by simp)
    simp only [wid, List.length_cons]
    omega
theorem Inv.len {wide : Int} {s : Fs} (h : Inv wide s) : (s.line.length : Int) ≤ wide := Int.le_trans (wid_ge _ h.wd).1 h.le
theorem Inv.nn {wide : Int} {s : Fs} (h : Inv wide s) : 0 ≤ wid s.line := by have := (wid_ge _ h.wd).1; omega
theorem Inv.wwait {wide : Int} {s : Fs} (h : Inv wide s) : wid s.wait = s.wait.length := by
  have h1 := h.wl
  have h2 := h.ww
  match hs : s.wait with
  | [] => simp [wid]
  | [g] => rw [hs] at h2; have := h2 g (by simp); simp [wid, this]
  | _ :: _ :: _ => rw [hs] at h1; simp at h1
theorem inv0 {wide : Int} (hw : 0 ≤ wide) : Inv wide fs0 := ⟨fun _ h => absurd h (by simp [fs0]), fun _ h => absurd h (by simp [fs0]), by simp [fs0], fun _ => rfl, by simp [fs0, wid, hw]⟩
theorem Inv.ended {wide : Int} {s : Fs} (h : Inv wide s) (hw : 0 ≤ wide) : Inv wide (endS s) := ⟨fun _ h => absurd h (by simp [endS]), fun _ h => absurd h (by simp [endS]), by simp [endS], fun _ => rfl, by simp [endS, wid, hw]⟩
theorem Inv.endedU {wide : Int} {s : Fs} (h : Inv wide s) (hw : 0 ≤ wide) : Inv wide (endU s) := by
  unfold endU
  split
  · exact h
  · exact h.ended hw
theorem Inv.put {wide : Int} {s : Fs} (h : Inv wide s) {g : Gl} (hg : 1 ≤ g.wd ∧ g.wd ≤ 2) (hf : wid s.line + g.wd ≤ wide) : Inv wide (putS s g) := by
  refine ⟨fun x hx => ?_, h.ww, h.wl, fun e => absurd e (by simp [putS]), by simp only [putS]; rw [wid_app, wid_one]; exact hf⟩
  rcases List.mem_append.1 hx with hx | hx
  · exact h.wd x hx
  · rw [List.mem_singleton] at hx
    subst hx
    exact hg
theorem Inv.sign {wide : Int} {s : Fs} (h : Inv wide s) {g : Gl} (hg : 1 ≤ g.wd ∧ g.wd ≤ 2) (hf : g.wd ≤ wide) : Inv wide (signS wide s g) := by
  unfold signS
  split
  · exact (h.ended (by omega)).put hg (by simp [endS, wid]; exact hf)
  · exact h.put hg (by omega)
/-- Lines so far. -/
def meas (s : Fs) : Nat := s.out.length + if s.line = [] then 0 else 1
theorem meas0 : meas fs0 = 0 := rfl
theorem meas_end (s : Fs) : meas (endS s) = s.out.length + 1 := by simp [meas, endS]
theorem meas_endU (s : Fs) : meas (endU s) = meas s := by
  unfold endU
  split
  · rfl
  · rename_i h; rw [meas_end]; simp [meas, h]
theorem meas_put (s : Fs) (g : Gl) : meas (putS s g) = s.out.length + 1 := by simp [meas, putS]
theorem out_le (s : Fs) : s.out.length ≤ meas s := by unfold meas; omega
theorem meas_le (s : Fs) : meas s ≤ s.out.length + 1 := by unfold meas; split <;> omega
theorem meas_sign (wide : Int) (s : Fs) (g : Gl) (hg : 1 ≤ g.wd) (hf : g.wd ≤ wide) : meas (signS wide s g) ≤ meas s + 1 ∧ (signS wide s g).out.length ≤ meas s := by
  unfold signS
  have h1 := out_le s
  split
  · rename_i h
    rw [meas_put]
    have : s.line ≠ [] := by intro e; rw [e] at h; simp [wid] at h; omega
    simp [endS, putS, meas, this]
  · rw [meas_put]
    simp only [putS]
    omega
theorem roomS_inv {wide : Int} {s : Fs} (h : Inv wide s) (w : List Gl) (hw : 0 ≤ wide) : Inv wide (roomS wide s w) := by
  unfold roomS
  split
  · exact h.endedU hw
  · exact h
theorem meas_room (wide : Int) (s : Fs) (w : List Gl) : meas (roomS wide s w) = meas s := by
  unfold roomS
  split
  · exact meas_endU s
  · rfl
theorem room_fits {wide : Int} {s : Fs} (h : Inv wide s) (w : List Gl) (hw : 0 ≤ wide) (hn : 0 ≤ wid w) : wid (roomS wide s w).line + wid (roomS wide s w).wait ≤ wide := by
  unfold roomS
  split
  · unfold endU
    split
    · rename_i e; rw [e, h.we e]; simp [wid, hw]
    · simp [endS, wid, hw]
  · omega
theorem laid_inv {wide : Int} {s : Fs} (h : Inv wide s) (hf : wid s.line + wid s.wait ≤ wide) : Inv wide (laidS s) := by
  refine ⟨fun g hg => ?_, fun _ h => absurd h (by simp [laidS]), by simp [laidS], fun _ => rfl, by simp only [laidS]; rw [wid_app]; exact hf⟩
  rcases List.mem_append.1 hg with hg | hg
  · exact h.wd g hg
  · have := h.ww g hg; omega
theorem meas_laid {wide : Int} {s : Fs} (h : Inv wide s) : meas (laidS s) = meas s := by
  unfold meas laidS
  simp only [List.append_eq_nil_iff]
  by_cases e : s.line = []
  · simp [e, h.we e]
  · simp [e]
theorem foldl_sign_inv {wide : Int} : ∀ (w : List Gl) (s : Fs), Inv wide s → (∀ g ∈ w, (1 ≤ g.wd ∧ g.wd ≤ 2) ∧ g.wd ≤ wide) → Inv wide (w.foldl (signS wide) s) ∧ meas (w.foldl (signS wide) s) ≤ meas s + w.length
  | [], s, h, _ => ⟨h, Nat.le_refl _⟩
  | g :: w, s, h, hw => by
    have hg := hw g (by simp)
    have h1 := foldl_sign_inv w (signS wide s g) (h.sign hg.1 hg.2) fun x hx => hw x (List.mem_cons_of_mem _ hx)
    have h2 := (meas_sign wide s g hg.1.1 hg.2).1
    refine ⟨h1.1, ?_⟩
    have := h1.2
    simp only [List.foldl_cons, List.length_cons]
    omega
theorem wordS_inv {wide : Int} {s : Fs} (h : Inv wide s) (hw : 0 ≤ wide) {w : List Gl} (hg : ∀ g ∈ w, (1 ≤ g.wd ∧ g.wd ≤ 2) ∧ g.wd ≤ wide) : Inv wide (wordS wide s w) ∧ meas (wordS wide s w) ≤ meas s + w.length := by
  have hn := (wid_ge w fun g hx => (hg g hx).1).1
  have h1 := roomS_inv h w hw
  have h2 := laid_inv h1 (room_fits h w hw (by omega))
  have h3 := foldl_sign_inv w _ h2 hg
  rw [meas_laid h1, meas_room] at h3
  exact h3
theorem fit_ok {wide : Int} {g : Gl} (h1 : 1 ≤ wide) (hb : badG g = false) (hs : sgn g = true) : (1 ≤ (fitG wide g).wd ∧ (fitG wide g).wd ≤ 2) ∧ (fitG wide g).wd ≤ wide := by
  unfold sgn at hs
  unfold badG at hb
  rw [hs] at hb
  simp at hb
  unfold fitG
  split
  · simp; omega
  · omega
theorem tab_inv {wide : Int} {s : Fs} (h : Inv wide s) (g : Gl) (hw : 0 ≤ wide) : Inv wide (tabS wide s g) := by
  unfold tabS
  split
  · rename_i hs
    have h0 := h.nn
    refine ⟨fun x hx => ?_, fun _ h => absurd h (by simp), by simp, fun _ => rfl, ?_⟩
    · rcases List.mem_append.1 hx with hx | hx
      · exact h.wd x hx
      · rw [List.mem_replicate] at hx
        rw [hx.2]
        simp [blank]
    · simp only
      rw [wid_app, wid_rep]
      unfold stopOf at hs ⊢
      simp only [blank, Int.mul_one]
      omega
  · exact h.ended hw
theorem meas_tab (wide : Int) (s : Fs) (g : Gl) : meas (tabS wide s g) ≤ meas s + 1 := by
  have h1 := out_le s
  unfold tabS
  split
  · have := meas_le ⟨s.out, s.line ++ List.replicate (stopOf s - wid s.line).toNat (blank g), []⟩
    simp only at this
    omega
  · rw [meas_end]; omega
theorem stepS_inv {wide : Int} {s : Fs} (h : Inv wide s) (g : Gl) (hw : 0 ≤ wide) : Inv wide (stepS wide s g) ∧ meas (stepS wide s g) ≤ meas s + 1 := by
  unfold stepS
  split
  · unfold waitS
    split
    · rename_i _ hc
      refine ⟨⟨h.wd, fun x hx => ?_, by simp, fun e => absurd e hc.1, h.le⟩, ?_⟩
      · simp at hx
        rw [hx]
        rfl
      · have : meas { s with wait := [blank g] } = meas s := rfl
        omega
    · exact ⟨h, Nat.le_succ _⟩
  · split
    · exact ⟨tab_inv h g hw, meas_tab wide s g⟩
    · exact ⟨h.ended hw, by rw [meas_end]; have := out_le s; omega⟩
theorem firstW_le (l : List Gl) : (firstW l).length ≤ l.length := (List.takeWhile_sublist _).length_le
theorem firstW_pos {g : Gl} {l : List Gl} (h : sgn g = true) : 0 < (firstW (g :: l)).length := by simp [firstW, List.takeWhile_cons, h]
theorem firstW_pre (l : List Gl) : l.take (firstW l).length = firstW l := by
  have : firstW l <+: l := List.takeWhile_prefix _
  exact (List.prefix_iff_eq_take.1 this).symm
theorem firstW_all (l : List Gl) : ∀ g ∈ firstW l, sgn g = true := by
  intro g hg
  exact List.all_eq_true.1 List.all_takeWhile g hg
theorem firstW_sub (l : List Gl) : ∀ g ∈ firstW l, g ∈ l := fun g hg => (List.takeWhile_sublist _).mem hg
theorem runS_more (wide : Int) : ∀ (n m : Nat) (s : Fs) (l : List Gl), l.length ≤ n → l.length ≤ m → runS wide n s l = runS wide m s l
  | n, m, s, [], _, _ => by cases n <;> cases m <;> rfl
  | 0, _, _, _ :: _, h, _ => absurd h (by simp)
  | _, 0, _, _ :: _, _, h => absurd h (by simp)
  | n + 1, m + 1, s, g :: l, h1, h2 => by
    unfold runS
    split
    · rename_i hs
      have := firstW_pos (l := l) hs
      simp only [List.length_cons] at h1 h2
      exact runS_more wide n m _ _ (by simp only [List.length_drop, List.length_cons]; omega) (by simp only [List.length_drop, List.length_cons]; omega)
    · exact runS_more wide n m _ _ (by simpa using h1) (by simpa using h2)
/-- From here on. -/
def runF (wide : Int) (s : Fs) (l : List Gl) : Fs := runS wide l.length s l
theorem runF_nil (wide : Int) (s : Fs) : runF wide s [] = s := rfl
theorem runF_word (wide : Int) (s : Fs) (g : Gl) (l : List Gl) (h : sgn g = true) : runF wide s (g :: l) = runF wide (wordS wide s ((firstW (g :: l)).map (fitG wide))) ((g :: l).drop (firstW (g :: l)).length) := by
  have := firstW_pos (l := l) h
  unfold runF
  rw [show (g :: l).length = l.length + 1 from rfl, runS, if_pos h]
  exact runS_more wide _ _ _ _ (by simp only [List.length_drop, List.length_cons]; omega) (Nat.le_refl _)
theorem runF_step (wide : Int) (s : Fs) (g : Gl) (l : List Gl) (h : sgn g = false) : runF wide s (g :: l) = runF wide (stepS wide s g) l := by
  unfold runF
  rw [show (g :: l).length = l.length + 1 from rfl, runS, if_neg (by simp [h])]
theorem fillM_eq (wide : Int) (l : List Gl) : fillM wide l = (endU (runF wide fs0 l)).out := rfl
/-- A word that fits is put as it is. -/
theorem foldl_fits {wide : Int} : ∀ (w : List Gl) (s : Fs), (∀ g ∈ w, 1 ≤ g.wd ∧ g.wd ≤ 2) → wid s.line + wid w ≤ wide → w.foldl (signS wide) s = { s with line := s.line ++ w }
  | [], s, _, _ => by simp
  | g :: w, s, hw, h => by
    have hg := hw g (by simp)
    have hn := (wid_ge w fun x hx => hw x (List.mem_cons_of_mem _ hx)).1
    simp only [wid] at h
    have e : signS wide s g = putS s g := by unfold signS; rw [if_neg (by omega)]
    rw [List.foldl_cons, e, foldl_fits w _ (fun x hx => hw x (List.mem_cons_of_mem _ hx)) (by simp only [putS]; rw [wid_app, wid_one]; omega)]
    simp [putS]
end Go.Proofs.YtjohhahfpgfjdaaGreatDoor.Tb
end
section
namespace Go.Proofs.YtjohhahfpgfjdaaGreatDoor.Tb
set_option linter.unusedVariables false
set_option linter.unusedSimpArgs false
/-- The list of a function's values. -/
def fnL (n : Nat) (g : Nat → Int) : List Int := (List.range n).map g
theorem fnL_len (n : Nat) (g : Nat → Int) : (fnL n g).length = n := by simp [fnL]
theorem fnL_at? {n : Nat} {g : Nat → Int} {i : Nat} (h : i < n) : (fnL n g)[i]? = some (g i) := by simp [fnL, h]
theorem fnL_set (n : Nat) (g : Nat → Int) (i : Nat) (v : Int) : (fnL n g).set i v = fnL n (fun j => if j = i then v else g j) := by
  apply List.ext_getElem
  · simp [fnL]
  · intro j h1 h2
    simp only [fnL, List.getElem_set, List.getElem_map, List.getElem_range]
    by_cases e : i = j
    · subst e; simp
    · rw [if_neg e, if_neg (fun h => e h.symm)]
theorem fnL_eq {n : Nat} {g h : Nat → Int} (e : ∀ j, j < n → g j = h j) : fnL n g = fnL n h := by
  apply List.map_congr_left
  intro j hj
  exact e j (List.mem_range.1 hj)
def sumZ : List Int → Int
  | [] => 0
  | x :: l => x + sumZ l
theorem sumZ_app (a b : List Int) : sumZ (a ++ b) = sumZ a + sumZ b := by
  induction a with
  | nil => simp [sumZ]
  | cons x a ih => simp only [List.cons_append, sumZ, ih]; omega
def one (w : Int) : Int := if w = 0 then 1 else w
/-- How many free ones stand ahead of a place. -/
def rank (ws : List Int) (i : Nat) : Nat := ((ws.take i).filter (· == 0)).length
def freeN (ws : List Int) : Nat := rank ws ws.length
def wAt (ws : List Int) (i : Nat) : Int := ws.getD i 0
theorem wAt_at {ws : List Int} {i : Nat} (h : i < ws.length) : wAt ws i = ws[i] := by simp [wAt, List.getD_eq_getElem?_getD, h]
theorem rank_zero (ws : List Int) : rank ws 0 = 0 := by simp [rank]
theorem rank_free {ws : List Int} {i : Nat} (h : i < ws.length) (h0 : wAt ws i = 0) : rank ws (i + 1) = rank ws i + 1 := by
  rw [wAt_at h] at h0
  unfold rank
  rw [List.take_succ_eq_append_getElem h, List.filter_append]
  simp [h0]
theorem rank_fixed {ws : List Int} {i : Nat} (h : i < ws.length) (h0 : wAt ws i ≠ 0) : rank ws (i + 1) = rank ws i := by
  rw [wAt_at h] at h0
  unfold rank
  rw [List.take_succ_eq_append_getElem h, List.filter_append]
  simp [h0]
theorem rank_step (ws : List Int) (i : Nat) : rank ws i ≤ rank ws (i + 1) := by
  by_cases h : i < ws.length
  · by_cases h0 : wAt ws i = 0
    · rw [rank_free h h0]; omega
    · rw [rank_fixed h h0]; omega
  · unfold rank
    rw [List.take_of_length_le (by omega), List.take_of_length_le (by omega)]
    omega
theorem rank_mono (ws : List Int) {i j : Nat} (h : i ≤ j) : rank ws i ≤ rank ws j := by
  induction h with
  | refl => omega
  | step _ ih => exact Nat.le_trans ih (rank_step ws _)
theorem rank_le (ws : List Int) (i : Nat) : rank ws i ≤ i := by
  unfold rank
  refine Nat.le_trans (List.length_filter_le _ _) ?_
  rw [List.length_take]
  omega
theorem rank_lt {ws : List Int} {i : Nat} (h : i < ws.length) (h0 : wAt ws i = 0) : rank ws i < freeN ws := by
  have := rank_mono ws (show i + 1 ≤ ws.length by omega)
  rw [rank_free h h0] at this
  exact this
/-- What the k-th of f free ones gets of c cells that are dealt out. -/
def give (f c k : Nat) : Nat := c / f + if k < c % f then 1 else 0
def dealG (ws : List Int) (f c : Nat) (i : Nat) : Int := if wAt ws i = 0 then 1 + give f c (rank ws i) else wAt ws i
def baseG (ws : List Int) (i : Nat) : Int := one (wAt ws i)
/-- What is left for those from the k-th on. -/
def leftN (f c k : Nat) : Nat := c - (k * (c / f) + min k (c % f))
theorem left_zero (f c : Nat) : leftN f c 0 = c := by simp [leftN]
theorem left_form {f c k : Nat} (hf : 0 < f) (hk : k ≤ f) : leftN f c k = (f - k) * (c / f) + (c % f - k) := by
  have h := Nat.div_add_mod c f
  have h2 : f * (c / f) = k * (c / f) + (f - k) * (c / f) := by rw [← Nat.add_mul]; congr 1; omega
  unfold leftN
  generalize c / f = q at *
  generalize c % f = r at *
  generalize (f - k) * q = a at *
  generalize k * q = b at *
  omega
theorem left_give {f c k : Nat} (hk : k < f) : (leftN f c k + (f - k) - 1) / (f - k) = give f c k := by
  rw [left_form (by omega) (by omega)]
  have hr : c % f < f := Nat.mod_lt _ (by omega)
  unfold give
  generalize hm : f - k = m
  have h0 : 0 < m := by omega
  rw [show m * (c / f) + (c % f - k) + m - 1 = m * (c / f) + ((c % f - k) + m - 1) by omega, Nat.mul_add_div h0]
  congr 1
  split
  · exact Nat.div_eq_of_lt_le (by omega) (by omega)
  · exact Nat.div_eq_of_lt (by omega)
theorem left_next {f c k : Nat} (hk : k < f) : leftN f c k - give f c k = leftN f c (k + 1) ∧ give f c k ≤ leftN f c k := by
  rw [left_form (by omega) (by omega), left_form (show 0 < f by omega) (by omega)]
  have e : (f - k) * (c / f) = c / f + (f - (k + 1)) * (c / f) := by
    rw [show f - k = 1 + (f - (k + 1)) by omega, Nat.add_mul, Nat.one_mul]
  unfold give
  split <;> omega
/-- The last of the widest ones among the first i. -/
def widF (l : List Int) : Nat → Nat
  | 0 => 0
  | i + 1 => if l.getD (widF l i) 0 ≤ l.getD i 0 then i else widF l i
def narrow1 (l : List Int) : List Int := l.set (widF l l.length) (l.getD (widF l l.length) 0 - 1)
def narrowN : Nat → List Int → List Int
  | 0, l => l
  | n + 1, l => narrowN n (narrow1 l)
theorem narrow1_len (l : List Int) : (narrow1 l).length = l.length := by simp [narrow1]
theorem widF_lt (l : List Int) : ∀ i, 0 < l.length → i ≤ l.length → widF l i < l.length
  | 0, h, _ => h
  | i + 1, h, hi => by
    unfold widF
    split
    · omega
    · exact widF_lt l i h (by omega)
theorem narrowN_snoc : ∀ (n : Nat) (l : List Int), narrowN (n + 1) l = narrow1 (narrowN n l)
  | 0, l => rfl
  | n + 1, l => by
    rw [narrowN, narrowN_snoc n (narrow1 l)]
    rfl
theorem narrowN_len : ∀ (n : Nat) (l : List Int), (narrowN n l).length = l.length
  | 0, l => rfl
  | n + 1, l => by rw [narrowN, narrowN_len n, narrow1_len]
theorem sumZ_set : ∀ (l : List Int) (i : Nat) (h : i < l.length) (v : Int), sumZ (l.set i v) = sumZ l - l[i] + v
  | [], i, h, _ => absurd h (by simp)
  | x :: l, 0, _, v => by simp only [List.set_cons_zero, sumZ, List.getElem_cons_zero]; omega
  | x :: l, i + 1, h, v => by
    have ih := sumZ_set l i (by simpa using h) v
    simp only [List.set_cons_succ, sumZ, List.getElem_cons_succ, ih]
    omega
theorem narrow1_sum (l : List Int) (h : 0 < l.length) : sumZ (narrow1 l) = sumZ l - 1 := by
  have hw := widF_lt l l.length h (Nat.le_refl _)
  unfold narrow1
  rw [sumZ_set l _ hw, List.getD_eq_getElem?_getD, List.getElem?_eq_getElem hw]
  simp only [Option.getD_some]
  omega
theorem narrowN_sum : ∀ (n : Nat) (l : List Int), 0 < l.length → sumZ (narrowN n l) = sumZ l - n
  | 0, l, _ => by simp [narrowN]
  | n + 1, l, h => by
    rw [narrowN, narrowN_sum n _ (by rw [narrow1_len]; exact h), narrow1_sum l h]
    omega
/-- The widths at a room. -/
def baseL (ws : List Int) : List Int := fnL ws.length (baseG ws)
def widthsM (ws : List Int) (room : Int) : List Int :=
  if room < sumZ (baseL ws) then narrowN (sumZ (baseL ws) - room).toNat (baseL ws) else fnL ws.length (dealG ws (freeN ws) (room - sumZ (baseL ws)).toNat)
def gapOf (n wide : Int) : Int := if wide - (n - 1) < n then 0 else 1
def roomOf (n wide : Int) : Int := if wide - (n - 1) < n then wide else wide - (n - 1)
def colsAt (gap : Int) : Int → List Int → List (Int × Int)
  | _, [] => []
  | a, w :: l => (a, w) :: colsAt gap (a + w + gap) l
def okW (w : Int) : Bool := decide (0 ≤ w ∧ w ≤ 200)
def colsE (ws : List Int) (wide : Int) : Int := if wide < 10 ∨ 200 < wide ∨ ws.length < 1 ∨ 8 < ws.length ∨ ws.any (fun w => !okW w) then 1 else 0
def colsM (ws : List Int) (wide : Int) : List (Int × Int) := colsAt (gapOf ws.length wide) 0 (widthsM ws (roomOf ws.length wide))
def colsL (ws : List Int) (wide : Int) : List (Int × Int) := if colsE ws wide = 0 then colsM ws wide else []
theorem colsAt_len (gap : Int) : ∀ (a : Int) (l : List Int), (colsAt gap a l).length = l.length
  | _, [] => rfl
  | a, w :: l => by simp [colsAt, colsAt_len gap _ l]
theorem colsAt_snoc (gap : Int) : ∀ (a : Int) (l : List Int) (w : Int), colsAt gap a (l ++ [w]) = colsAt gap a l ++ [(a + sumZ l + gap * l.length, w)]
  | a, [], w => by simp [colsAt, sumZ]
  | a, x :: l, w => by
    simp only [List.cons_append, colsAt, colsAt_snoc gap _ l w, sumZ, List.length_cons, List.cons.injEq, true_and, List.append_cancel_left_eq, Prod.mk.injEq, and_true]
    rw [show ((l.length + 1 : Nat) : Int) = (l.length : Int) + 1 by omega, Int.mul_add]
    omega
end Go.Proofs.YtjohhahfpgfjdaaGreatDoor.Tb
end
section
namespace Go.Proofs.YtjohhahfpgfjdaaGreatDoor.Tb
open Go.RowKit Go.Maps
set_option linter.unusedVariables false

def SaysL (v : Value) (w : World) (e : Ending) (w' : World) : Prop := e = .returned v ∧ Below w.heap.size w w'
theorem cellInL {w : World} {a : Addr} {v : Value} (h : w.cell? a = some v) : a.block < w.heap.size := World.block_lt_of_cell? w _ h
theorem own_base {W : World} {base : Nat} {e : TypeId} {size : Nat} {v : Value} {n : Nat} {xs : List Value} (h : W.ownsRow base e size v n xs) {c : Nat} (hc : v.ownBlock = some c) : base ≤ c ∧ c < W.heap.size := h.lt c hc
theorem own_stays {W W' : World} {base : Nat} {e : TypeId} {size : Nat} {v : Value} {n : Nat} {xs : List Value} (h : W.ownsRow base e size v n xs) (hk : ∀ c, v.ownBlock = some c → W'.heap[c]? = W.heap[c]?) : W'.ownsRow base e size v n xs := by
  refine ⟨h.1, ?_⟩
  rcases h.2 with h0 | ⟨g, cap, cur, h1, h2, h3, h4⟩
  · exact .inl h0
  · exact .inr ⟨g, cap, cur, h1, h2, (hk g (by rw [h1]; rfl)).trans h3, h4⟩
theorem own_below {W W' : World} {base : Nat} {e : TypeId} {size : Nat} {v : Value} {n : Nat} {xs : List Value} (h : W.ownsRow base e size v n xs) (hb : Below W.heap.size W W') : W'.ownsRow base e size v n xs :=
  own_stays h fun c hc => hb.block c (own_base h hc).2
theorem own_ne {W : World} {b1 b2 : Nat} {e1 e2 : TypeId} {s1 s2 : Nat} {v1 v2 : Value} {n1 n2 : Nat} {x1 x2 : List Value} (h1 : W.ownsRow b1 e1 s1 v1 n1 x1) (h2 : W.ownsRow b2 e2 s2 v2 n2 x2) (hne : e1 ≠ e2) {c : Nat} (hc : v1.ownBlock = some c) : v2.ownBlock ≠ some c := by
  intro hd
  rcases h1.2 with ⟨rfl, _⟩ | ⟨g, cap, cur, rfl, _, hg, _⟩
  · simp [Value.ownBlock] at hc
  · rcases h2.2 with ⟨rfl, _⟩ | ⟨g2, cap2, cur2, rfl, _, hg2, _⟩
    · simp [Value.ownBlock] at hd
    · obtain rfl : g = c := by simpa [Value.ownBlock] using hc
      obtain rfl : g2 = g := by simpa [Value.ownBlock] using hd
      rw [hg] at hg2
      injection hg2 with h
      injection h with _ h
      exact hne h
theorem own_not {W : World} {M : Nat} {base : Nat} {e T : TypeId} {size n : Nat} {v : Value} {xs : List Value} {cs : Array Value} {fr : Nat × Nat} (h : W.ownsRow base e size v n xs) (hM : W.heap[M]? = some (.cells cs T fr)) (he : e ≠ T) : v.ownBlock ≠ some M := by
  intro hd
  rcases h.2 with ⟨rfl, _⟩ | ⟨g, cap, cur, rfl, _, hg, _⟩
  · simp [Value.ownBlock] at hd
  · obtain rfl : g = M := by simpa [Value.ownBlock] using hd
    rw [hM] at hg
    injection hg with h
    injection h with _ h
    exact he h.symm
theorem own_lower {W : World} {base base' : Nat} {e : TypeId} {size : Nat} {v : Value} {n : Nat} {xs : List Value} (h : W.ownsRow base e size v n xs) (hb : base' ≤ base) : W.ownsRow base' e size v n xs := by
  refine ⟨h.1, ?_⟩
  rcases h.2 with h0 | ⟨g, cap, cur, h1, h2, h3⟩
  · exact .inl h0
  · exact .inr ⟨g, cap, cur, h1, Nat.le_trans hb h2, h3⟩
theorem lenL {w : World} {base : Nat} {e : TypeId} {size : Nat} {v : Value} {n : Nat} {xs : List Value} (h : w.ownsRow base e size v n xs) : ∃ (p : Option Addr) (c : Nat), v = .slice p n c := by
  rcases h.2 with ⟨rfl, h0⟩ | ⟨g, cap, cur, rfl, _⟩
  · exact ⟨none, 0, by rw [h0]⟩
  · exact ⟨_, _, rfl⟩
theorem own_one {w : World} {v : Value} {base : Nat} {e : TypeId} {size n : Nat} {xs : List Value} (h : w.ownsRow base e size v n xs) : v.oneCell' = true := by
  obtain ⟨p, c, rfl⟩ := lenL h
  rfl
theorem cells_newL (w : World) (cs : Array Value) (t : TypeId) (j : Nat) (u : Value) (h : cs.toList[j]? = some u) : (w.alloc (.cells cs t)).cell? ((⟨w.heap.size, 0, none⟩ : Addr).add j) = some u := by
  rw [Addr.add_lit, Nat.zero_add, cell_of_row _ _ _ _ _ _ (heap_alloc_new w _)]
  rw [← Array.getElem?_toList]
  exact h
/-- A glyph's value, its cells, its cells in memory. -/
def glV (g : Gl) : Value := .agg #[.string g.t, .int .i64 g.wd, .int .i64 g.at_, .int .i64 g.co, .int .i64 g.lk]
def glRow (g : Gl) : List Value := [.string g.t, .int .i64 g.wd, .int .i64 g.at_, .int .i64 g.co, .int .i64 g.lk]
def boxG (g : Gl) : Obj := .cells #[.string g.t, .int .i64 g.wd, .int .i64 g.at_, .int .i64 g.co, .int .i64 g.lk] 44
def GlIs (W : World) (b o : Nat) (g : Gl) : Prop :=
  W.cell? ⟨b, o, none⟩ = some (.string g.t) ∧ W.cell? ⟨b, o + 1, none⟩ = some (.int .i64 g.wd) ∧ W.cell? ⟨b, o + 2, none⟩ = some (.int .i64 g.at_) ∧ W.cell? ⟨b, o + 3, none⟩ = some (.int .i64 g.co) ∧ W.cell? ⟨b, o + 4, none⟩ = some (.int .i64 g.lk)
/-- A flow, a line in memory, in blocks that P holds of. -/
def RdG (P : Nat → Prop) (w : World) (v : Value) (l : List Gl) : Prop :=
  ∃ (pa : Option Addr) (cap : Nat), v = .slice pa l.length cap ∧ l.length ≤ cap ∧ cap ≤ maxLen ∧ ∀ j (hj : j < l.length), ∃ b off, pa = some ⟨b, off, none⟩ ∧ P b ∧ GlIs w b (off + j * 5) l[j]
section
variable {P Q : Nat → Prop} {w w' : World} {v : Value} {l : List Gl}
theorem GlIs.keep {b o : Nat} {x : Gl} (h : GlIs w b o x) (hk : ∀ a : Addr, a.block = b → w'.cell? a = w.cell? a) : GlIs w' b o x :=
  ⟨(hk ⟨b, o, none⟩ rfl).trans h.1, (hk ⟨b, o + 1, none⟩ rfl).trans h.2.1, (hk ⟨b, o + 2, none⟩ rfl).trans h.2.2.1, (hk ⟨b, o + 3, none⟩ rfl).trans h.2.2.2.1, (hk ⟨b, o + 4, none⟩ rfl).trans h.2.2.2.2⟩
theorem RdG.keep (h : RdG P w v l) (hk : ∀ a : Addr, P a.block → a.block < w.heap.size → w'.cell? a = w.cell? a) : RdG P w' v l := by
  obtain ⟨pa, cap, e, h1, h2, h4⟩ := h
  refine ⟨pa, cap, e, h1, h2, fun j hj => ?_⟩
  obtain ⟨b, off, e, hp, hc⟩ := h4 j hj
  exact ⟨b, off, e, hp, hc.keep fun a ha => hk a (by rw [ha]; exact hp) (by rw [ha]; exact cellInL hc.1)⟩
theorem RdG.move (h : RdG P w v l) (hk : ∀ b, P b → b < w.heap.size → w'.heap[b]? = w.heap[b]? ∧ Q b) : RdG Q w' v l := by
  obtain ⟨pa, cap, e, h1, h2, h4⟩ := h
  refine ⟨pa, cap, e, h1, h2, fun j hj => ?_⟩
  obtain ⟨b, off, e, hp, hc⟩ := h4 j hj
  have hb := hk b hp (cellInL hc.1)
  exact ⟨b, off, e, hb.2, hc.keep fun a ha => World.cell?_of_block (by rw [ha]; exact hb.1)⟩
theorem RdG.below (h : RdG P w v l) (hb : Below w.heap.size w w') : RdG P w' v l := h.keep fun _ _ ha => hb.cell ha
theorem RdG.imp (h : RdG P w v l) (hq : ∀ b, b < w.heap.size → P b → Q b) : RdG Q w v l := by
  obtain ⟨pa, cap, e, h1, h2, h4⟩ := h
  refine ⟨pa, cap, e, h1, h2, fun j hj => ?_⟩
  obtain ⟨b, off, e, hp, hc⟩ := h4 j hj
  exact ⟨b, off, e, hq b (cellInL hc.1) hp, hc⟩
theorem RdG.form (h : RdG P w v l) : ∃ (pa : Option Addr) (cap : Nat), v = .slice pa l.length cap ∧ l.length ≤ cap ∧ cap ≤ maxLen := by
  obtain ⟨pa, cap, e, h1, h2, _⟩ := h
  exact ⟨pa, cap, e, h1, h2⟩
theorem RdG.at_ {pa : Option Addr} {n cap : Nat} (h : RdG P w (.slice pa n cap) l) {j : Nat} (hj : j < l.length) : ∃ b off, pa = some ⟨b, off, none⟩ ∧ P b ∧ GlIs w b (off + j * 5) l[j] := by
  obtain ⟨pa', cap', e, _, _, h4⟩ := h
  cases e
  exact h4 j hj
theorem RdG.nil (w : World) (c : Nat) (hc : c ≤ maxLen) (pa : Option Addr) : RdG P w (.slice pa 0 c) [] := ⟨pa, c, rfl, Nat.zero_le _, hc, fun j hj => absurd hj (by simp)⟩
/-- What is left behind the first ones. -/
theorem RdG.drop {b off n cap : Nat} (h : RdG P w (.slice (some ⟨b, off, none⟩) n cap) l) (k : Nat) (hk : k ≤ n) : RdG P w (.slice (some ⟨b, off + k * 5, none⟩) (n - k) (cap - k)) (l.drop k) := by
  obtain ⟨pa, cap', e, h1, h2, h4⟩ := h
  cases e
  refine ⟨_, _, by rw [List.length_drop], by rw [List.length_drop]; omega, by omega, fun j hj => ?_⟩
  rw [List.length_drop] at hj
  obtain ⟨b', off', e, hp, hc⟩ := h4 (k + j) (by omega)
  cases e
  refine ⟨_, _, rfl, hp, ?_⟩
  rw [show off + k * 5 + j * 5 = off + (k + j) * 5 by omega, List.getElem_drop]
  exact hc
/-- The first ones. -/
theorem RdG.take {pa : Option Addr} {n cap : Nat} (h : RdG P w (.slice pa n cap) l) (k : Nat) (hk : k ≤ n) : RdG P w (.slice pa k cap) (l.take k) := by
  obtain ⟨pa, cap', e, h1, h2, h4⟩ := h
  cases e
  have hl : (l.take k).length = k := by rw [List.length_take]; omega
  refine ⟨_, _, by rw [hl], by omega, h2, fun j hj => ?_⟩
  obtain ⟨b', off', e, hp, hc⟩ := h4 j (by omega)
  refine ⟨_, _, e, hp, ?_⟩
  rw [List.getElem_take]
  exact hc
end
def rowsG (l : List Gl) : List Value := l.flatMap glRow
theorem glRow_len (r : Gl) : (glRow r).length = 5 := rfl
theorem rowsG_len : ∀ l : List Gl, (rowsG l).length = l.length * 5
  | [] => rfl
  | r :: l => by
    have := rowsG_len l
    unfold rowsG at this ⊢
    rw [List.flatMap_cons, List.length_append, this, glRow_len, List.length_cons]
    omega
theorem rowsG_at : ∀ (l : List Gl) (j k : Nat) (hj : j < l.length), k < 5 → (rowsG l)[j * 5 + k]? = (glRow l[j])[k]?
  | [], j, k, hj, _ => absurd hj (by simp)
  | r :: l, 0, k, _, hk => by
    unfold rowsG
    rw [List.flatMap_cons, Nat.zero_mul, Nat.zero_add, List.getElem?_append_left (by rw [glRow_len]; exact hk)]
    rfl
  | r :: l, j + 1, k, hj, hk => by
    have h := rowsG_at l j k (by simpa using hj) hk
    unfold rowsG at h ⊢
    rw [List.flatMap_cons, List.getElem?_append_right (by rw [glRow_len]; omega), glRow_len, show (j + 1) * 5 + k - 5 = j * 5 + k by omega, h]
    simp
theorem rowsG_app (a b : List Gl) : rowsG (a ++ b) = rowsG a ++ rowsG b := by simp [rowsG]
theorem glRow_one (r : Gl) : ∀ u ∈ glRow r, u.oneCell' = true := by
  intro u hr
  simp only [glRow, List.mem_cons, List.not_mem_nil, or_false] at hr
  rcases hr with rfl | rfl | rfl | rfl | rfl <;> rfl
theorem rowsG_one (l : List Gl) : ∀ u ∈ rowsG l, u.oneCell' = true := by
  intro u hu
  obtain ⟨r, hm, hr⟩ := List.mem_flatMap.1 hu
  exact glRow_one r u hr
section
variable {B : Nat} {w w' : World} {v : Value} {l : List Gl}
theorem row_form {n : Nat} (h : w.ownsRow B 44 5 v n (rowsG l)) (hn : n = l.length) {j : Nat} (hj : j < l.length) : ∃ g cap, v = .slice (some ⟨g, 0, none⟩) n cap ∧ B ≤ g ∧ g < w.heap.size ∧ n ≤ cap ∧ cap ≤ maxLen ∧ GlIs w g (j * 5) l[j] := by
  rcases h.2 with ⟨rfl, h0⟩ | ⟨g, cap, cur, rfl, hb, hg, h1, h2, h3, h4⟩
  · omega
  · have c : ∀ k, k < 5 → w.cell? ⟨g, j * 5 + k, none⟩ = (glRow l[j])[k]? := fun k hk => by
      rw [World.ownsRow.cellAt h (j * 5 + k) (by omega), rowsG_at l j k hj hk]
    exact ⟨g, cap, rfl, hb, (Array.getElem?_eq_some_iff.1 hg).1, h1, h2, c 0 (by omega), c 1 (by omega), c 2 (by omega), c 3 (by omega), c 4 (by omega)⟩
/-- A row of the call's own reads as its list. -/
theorem RdG.own {n : Nat} (h : w.ownsRow B 44 5 v n (rowsG l)) (hn : n = l.length) : RdG (fun b => v.ownBlock = some b ∧ B ≤ b) w v l := by
  subst hn
  rcases Nat.eq_zero_or_pos l.length with h0 | h0
  · have : l = [] := List.eq_nil_of_length_eq_zero h0
    subst this
    rcases h.2 with ⟨rfl, _⟩ | ⟨g, cap, cur, rfl, hb, hg, h1, h2, _⟩
    · exact ⟨none, 0, rfl, Nat.le_refl _, Nat.zero_le _, fun i hi => absurd hi (by simp)⟩
    · exact ⟨_, cap, rfl, h1, h2, fun i hi => absurd hi (by simp)⟩
  · obtain ⟨g, cap, rfl, hb, hg, h1, h2, _⟩ := row_form h rfl h0
    refine ⟨_, cap, rfl, h1, h2, fun j hj => ?_⟩
    obtain ⟨g', cap', e, _, _, _, _, hc⟩ := row_form h rfl hj
    cases e
    refine ⟨g, 0, rfl, ⟨rfl, hb⟩, ?_⟩
    rw [Nat.zero_add]
    exact hc
end
/-- Lines in memory. -/
def RdL (P : Nat → Prop) (w : World) (v : Value) (ls : List (List Gl)) : Prop :=
  ∃ (pa : Option Addr) (cap : Nat), v = .slice pa ls.length cap ∧ ls.length ≤ cap ∧ cap ≤ maxLen ∧ ∀ j (hj : j < ls.length), ∃ b off tv, pa = some ⟨b, off, none⟩ ∧ P b ∧ w.cell? ⟨b, off + j, none⟩ = some tv ∧ RdG P w tv ls[j]
section
variable {P Q : Nat → Prop} {w w' : World} {v : Value} {ls : List (List Gl)}
theorem RdL.keep (h : RdL P w v ls) (hk : ∀ a : Addr, P a.block → a.block < w.heap.size → w'.cell? a = w.cell? a) : RdL P w' v ls := by
  obtain ⟨pa, cap, e, h1, h2, h4⟩ := h
  refine ⟨pa, cap, e, h1, h2, fun j hj => ?_⟩
  obtain ⟨b, off, tv, e, hp, hc, hd⟩ := h4 j hj
  exact ⟨b, off, tv, e, hp, (hk ⟨b, off + j, none⟩ hp (cellInL hc)).trans hc, hd.keep hk⟩
theorem RdL.below (h : RdL P w v ls) (hb : Below w.heap.size w w') : RdL P w' v ls := h.keep fun _ _ ha => hb.cell ha
theorem RdL.imp (h : RdL P w v ls) (hq : ∀ b, b < w.heap.size → P b → Q b) : RdL Q w v ls := by
  obtain ⟨pa, cap, e, h1, h2, h4⟩ := h
  refine ⟨pa, cap, e, h1, h2, fun j hj => ?_⟩
  obtain ⟨b, off, tv, e, hp, hc, hd⟩ := h4 j hj
  exact ⟨b, off, tv, e, hq b (cellInL hc) hp, hc, hd.imp hq⟩
theorem RdL.form (h : RdL P w v ls) : ∃ (pa : Option Addr) (cap : Nat), v = .slice pa ls.length cap ∧ ls.length ≤ cap ∧ cap ≤ maxLen := by
  obtain ⟨pa, cap, e, h1, h2, _⟩ := h
  exact ⟨pa, cap, e, h1, h2⟩
theorem RdL.at_ {pa : Option Addr} {n cap : Nat} (h : RdL P w (.slice pa n cap) ls) {j : Nat} (hj : j < ls.length) : ∃ b off pz cz, pa = some ⟨b, off, none⟩ ∧ P b ∧ w.cell? ⟨b, off + j, none⟩ = some (.slice pz ls[j].length cz) ∧ ls[j].length ≤ cz ∧ cz ≤ maxLen ∧ RdG P w (.slice pz ls[j].length cz) ls[j] := by
  obtain ⟨pa', cap', e, _, _, h4⟩ := h
  cases e
  obtain ⟨b, off, tv, e, hp, hc, hd⟩ := h4 j hj
  obtain ⟨pz, cz, rfl, h5, h6⟩ := hd.form
  exact ⟨b, off, pz, cz, e, hp, hc, h5, h6, hd⟩
end
theorem infoG : (Tryz.prog.info? 44).map (fun i => (i.zero, i.size, i.bytes)) = some (some (.agg #[.string .empty, .int .i64 0, .int .i64 0, .int .i64 0, .int .i64 0]), 5, 48) := by kernel_rfl
theorem infoL : (Tryz.prog.info? 34).map (fun i => (i.zero, i.size, i.bytes)) = some (some (.slice none 0 0), 1, 24) := by kernel_rfl
theorem infoC : (Tryz.prog.info? 172).map (fun i => (i.zero, i.size, i.bytes)) = some (some (.agg #[.int .i64 0, .int .i64 0]), 2, 16) := by kernel_rfl
theorem infoI : (Tryz.prog.info? 3).map (fun i => (i.zero, i.size, i.bytes)) = some (some (.int .i64 0), 1, 8) := by kernel_rfl
/-- Lines that a call has made: a row of the call's own, its lines in blocks that P holds of. -/
structure OwnL (B : Nat) (P : Nat → Prop) (w : World) (v : Value) (ls : List (List Gl)) (vs : List Value) : Prop where
  num : vs.length = ls.length
  row : w.ownsRow B 34 1 v ls.length vs
  line : ∀ j (hj : j < ls.length), RdG P w (vs[j]'(by omega)) ls[j]
theorem rdg_one {P : Nat → Prop} {w : World} {v : Value} {l : List Gl} (h : RdG P w v l) : v.oneCell' = true := by
  obtain ⟨pa, cap, rfl, _⟩ := h
  rfl
section
variable {B : Nat} {P Q : Nat → Prop} {w w' : World} {v : Value} {ls : List (List Gl)} {vs : List Value}
theorem OwnL.nil (w : World) (B : Nat) (P : Nat → Prop) : OwnL B P w (.slice none 0 0) [] [] := ⟨rfl, World.ownsRow_nil _ _ _ _, fun j hj => absurd hj (by simp)⟩
theorem OwnL.one (h : OwnL B P w v ls vs) : ∀ u ∈ vs, u.oneCell' = true := by
  intro u hu
  obtain ⟨j, hj, rfl⟩ := List.mem_iff_getElem.1 hu
  exact rdg_one (h.line j (by have := h.num; omega))
theorem OwnL.keep (h : OwnL B P w v ls vs) (h1 : ∀ c, v.ownBlock = some c → w'.heap[c]? = w.heap[c]?) (hk : ∀ a : Addr, P a.block → a.block < w.heap.size → w'.cell? a = w.cell? a) : OwnL B P w' v ls vs :=
  ⟨h.num, own_stays h.row h1, fun j hj => (h.line j hj).keep hk⟩
theorem OwnL.imp (h : OwnL B P w v ls vs) (hq : ∀ b, b < w.heap.size → P b → Q b) : OwnL B Q w v ls vs := ⟨h.num, h.row, fun j hj => (h.line j hj).imp hq⟩
theorem OwnL.below (h : OwnL B P w v ls vs) (hb : Below w.heap.size w w') : OwnL B P w' v ls vs := ⟨h.num, own_below h.row hb, fun j hj => (h.line j hj).below hb⟩
theorem OwnL.rd (h : OwnL B P w v ls vs) (hP : ∀ b, B ≤ b → v.ownBlock = some b → Q b) (hq : ∀ b, b < w.heap.size → P b → Q b) : RdL Q w v ls := by
  rcases h.row.2 with ⟨rfl, h0⟩ | ⟨g, cap, cur, rfl, hb, hg, h1, h2, h3, h4⟩
  · exact ⟨none, 0, by rw [h0], by omega, Nat.zero_le _, fun i hi => absurd hi (by omega)⟩
  · refine ⟨_, cap, rfl, h1, h2, fun j hj => ⟨g, 0, vs[j]'(by have := h.num; omega), rfl, hP g hb rfl, ?_, (h.line j hj).imp hq⟩⟩
    have := World.ownsRow.cellAt h.row j (by omega)
    rw [Nat.zero_add, this]
    simp
/-- Behind the append of a line. -/
theorem OwnL.push (h : OwnL B P w v ls vs) {u : Value} {l : List Gl} {v' : Value} (hu : RdG Q w' u l) (h1 : w'.ownsRow B 34 1 v' (ls.length + 1) (vs ++ [u])) (hk : ∀ b, P b → b < w.heap.size → w'.heap[b]? = w.heap[b]? ∧ Q b) : OwnL B Q w' v' (ls ++ [l]) (vs ++ [u]) := by
  refine ⟨by simp [h.num], by rw [List.length_append]; exact h1, fun j hj => ?_⟩
  by_cases hjl : j < ls.length
  · have e1 : (ls ++ [l])[j] = ls[j] := List.getElem_append_left hjl
    have e2 : (vs ++ [u])[j]'(by simp [h.num]; omega) = vs[j]'(by have := h.num; omega) := List.getElem_append_left (by have := h.num; omega)
    rw [e1, e2]
    exact (h.line j hjl).move hk
  · have hje : j = ls.length := by simp at hj; omega
    have e1 : (ls ++ [l])[j] = l := by simp [hje]
    have e2 : (vs ++ [u])[j]'(by simp [h.num]; omega) = u := by simp [hje, ← h.num]
    rw [e1, e2]
    exact hu
end
end Go.Proofs.YtjohhahfpgfjdaaGreatDoor.Tb
end
section
namespace Go.Proofs.YtjohhahfpgfjdaaGreatDoor.Tb
open Go.RowKit Go.Maps
set_option linter.unusedVariables false
set_option linter.unusedSimpArgs false
def within (a b c : Int) : Bool := decide (b ≤ a ∧ a ≤ c)
set_option maxRecDepth 100000 in
theorem within_pro (a b c : Int) (w : World) : Calls Tryz.prog 97 #[.int .i64 a, .int .i64 b, .int .i64 c] w fun e w' => e = .returned (.bool (within a b c)) ∧ w = w' := by
  by_cases h1 : b ≤ a
  · by_cases h2 : a ≤ c
    · rw [show within a b c = true from decide_eq_true ⟨h1, h2⟩]
      go_enter Tryz.func97, Tryz.ntmps97
      go_wp2_with fail
      go_ret
      exact ⟨rfl, rfl⟩
    · rw [show within a b c = false from decide_eq_false (by omega)]
      go_enter Tryz.func97, Tryz.ntmps97
      go_wp2_with fail
      go_ret
      exact ⟨rfl, rfl⟩
  · rw [show within a b c = false from decide_eq_false (by omega)]
    go_enter Tryz.func97, Tryz.ntmps97
    go_wp2_with fail
    go_ret
    exact ⟨rfl, rfl⟩
theorem below_box (w : World) (o : Obj) : Below w.heap.size w (w.alloc o) := (Below.refl _ w).alloc (Nat.le_refl _) _
theorem box_cells (w : World) (g : Gl) : (w.alloc (boxG g)).cell? ⟨w.heap.size, 0, none⟩ = some (.string g.t) ∧ (w.alloc (boxG g)).cell? ⟨w.heap.size, 1, none⟩ = some (.int .i64 g.wd) ∧ (w.alloc (boxG g)).cell? ⟨w.heap.size, 2, none⟩ = some (.int .i64 g.at_) ∧ (w.alloc (boxG g)).cell? ⟨w.heap.size, 3, none⟩ = some (.int .i64 g.co) ∧ (w.alloc (boxG g)).cell? ⟨w.heap.size, 4, none⟩ = some (.int .i64 g.lk) := by
  unfold boxG
  refine ⟨?_, ?_, ?_, ?_, ?_⟩ <;> rw [cell_of_row _ _ _ _ _ _ (heap_alloc_new w _)] <;> rfl
set_option maxRecDepth 100000 in
theorem noSign_pro (g : Gl) (w : World) : Calls Tryz.prog 143 #[glV g] w (SaysL (.bool (noS g)) w) := by
  have hb := below_box w (boxG g)
  unfold boxG at hb
  unfold glV
  cases h1 : isB g with
  | true =>
    rw [show noS g = true by simp [noS, h1]]
    unfold isB at h1
    have HB := Lib.hid hb
    clear hb
    go_enter Tryz.func143, Tryz.ntmps143
    go_wp2_with fail
    go_ret
    exact ⟨rfl, HB.out⟩
  | false =>
    cases h2 : isT g with
    | true =>
      rw [show noS g = true by simp [noS, h1, h2]]
      unfold isB at h1
      unfold isT at h2
      have HB := Lib.hid hb
      clear hb
      go_enter Tryz.func143, Tryz.ntmps143
      go_wp2_with fail
      go_ret
      exact ⟨rfl, HB.out⟩
    | false =>
      rw [show noS g = isN g by simp [noS, h1, h2]]
      unfold isB at h1
      unfold isT at h2
      obtain ⟨z, hz⟩ : ∃ z, isN g = z := ⟨_, rfl⟩
      rw [hz]
      unfold isN at hz
      have HB := Lib.hid hb
      clear hb
      cases z
      all_goals
        go_enter Tryz.func143, Tryz.ntmps143
        go_wp2_with fail
        go_ret
        exact ⟨rfl, HB.out⟩
set_option maxRecDepth 100000 in
theorem mayNot_pro (g : Gl) (w : World) : Calls Tryz.prog 117 #[glV g] w (SaysL (.bool (badG g)) w) := by
  have hb := below_box w (boxG g)
  have HN := Lib.hid (noSign_pro g (w.alloc (boxG g)))
  unfold boxG at hb HN
  unfold glV at HN ⊢
  have HB := Lib.hid hb
  have e1 : ∀ b, badG g = b → badG g = b := fun _ h => h
  unfold badG
  clear hb e1
  obtain ⟨z, hz⟩ : ∃ z, noS g = z := ⟨_, rfl⟩
  rw [hz] at HN ⊢
  clear hz
  cases z with
  | true =>
    simp only [Bool.not_true, Bool.false_and]
    go_enter Tryz.func117, Tryz.ntmps117
    go_wp2_with fail
    refine HN.out.mono ?_
    rintro e w1 ⟨rfl, hb⟩
    have HB2 := Lib.hid hb
    clear hb
    go_wp2_with fail
    go_ret
    exact ⟨rfl, HB.out.trans (HB2.out.mono HB.out.size)⟩
  | false =>
    simp only [Bool.not_false, Bool.true_and]
    have HC := Lib.hid (box_cells w g)
    unfold boxG at HC
    obtain ⟨z, hz⟩ : ∃ z, (g.t.toList == []) = z := ⟨_, rfl⟩
    rw [hz]
    cases z with
    | true =>
      simp only [Bool.true_or]
      have HZ := Lib.hid hz
      clear hz
      go_enter Tryz.func117, Tryz.ntmps117
      go_wp2_with fail
      refine HN.out.mono ?_
      rintro e w1 ⟨rfl, hb⟩
      have hz := HZ.out
      have c0 := (hb.cell (p := ⟨w.heap.size, 0, none⟩) (cellInL HC.out.1)).trans HC.out.1
      have HB2 := Lib.hid hb
      have z2 : g.t.toList = [] := by simpa using hz
      clear hb
      go_wp2_with fail
      go_ret
      exact ⟨rfl, HB.out.trans (HB2.out.mono HB.out.size)⟩
    | false =>
      rw [show (decide (1 ≤ g.wd) && decide (g.wd ≤ 2)) = within g.wd 1 2 by unfold within; rw [Bool.decide_and]]
      simp only [Bool.false_or]
      have HZ := Lib.hid hz
      clear hz
      go_enter Tryz.func117, Tryz.ntmps117
      go_wp2_with fail
      refine HN.out.mono ?_
      rintro e w1 ⟨rfl, hb⟩
      have hz := HZ.out
      have c0 := (hb.cell (p := ⟨w.heap.size, 0, none⟩) (cellInL HC.out.1)).trans HC.out.1
      have c1 := (hb.cell (p := ⟨w.heap.size, 1, none⟩) (cellInL HC.out.2.1)).trans HC.out.2.1
      have HB2 := Lib.hid hb
      clear hb
      go_wp2_with fail
      refine (within_pro _ _ _ _).mono ?_
      rintro e w2 ⟨rfl, rfl⟩
      go_wp2_with fail
      go_ret
      exact ⟨rfl, HB.out.trans (HB2.out.mono HB.out.size)⟩
def MakesG (g : Gl) (w : World) (e : Ending) (w' : World) : Prop := e = .returned (glV g) ∧ Below w.heap.size w w'
set_option maxRecDepth 100000 in
theorem blank_pro (g : Gl) (w : World) : Calls Tryz.prog 151 #[glV g] w (MakesG (blank g) w) := by
  unfold glV
  go_enter Tryz.func151, Tryz.ntmps151
  go_wp2_with fail
  refine bodyPost_ret (v := glV (blank g)) ?_ rfl ⟨rfl, ?_⟩
  · simp [results, Tryz.results151, go_sem, glV, blank, bl1]
  · exact ((below_box w _).alloc (by simp) _)
end Go.Proofs.YtjohhahfpgfjdaaGreatDoor.Tb
end
section
namespace Go.Proofs.YtjohhahfpgfjdaaGreatDoor.Tb
open Go.RowKit Go.Maps
set_option linter.unusedVariables false
set_option linter.unusedSimpArgs false
/-- The place of the first glyph that p holds of, or -1. -/
def IdxIs (p : Gl → Bool) (l : List Gl) (i : Int) : Prop := (i = -1 ∧ ∀ g ∈ l, p g = false) ∨ ∃ (k : Nat) (h : k < l.length), i = k ∧ p l[k] = true ∧ ∀ j (hj : j < k), p (l[j]'(by omega)) = false
def IdxPost (p : Gl → Bool) (l : List Gl) (w : World) (e : Ending) (w' : World) : Prop := ∃ i, e = .returned (.int .i64 i) ∧ IdxIs p l i ∧ Below w.heap.size w w'
theorem sliceG {P : Nat → Prop} {w : World} {v : Value} {l : List Gl} (h : RdG P w v l) : ∃ (pa : Option Addr) (cap : Nat), v = .slice pa l.length cap ∧ l.length ≤ cap ∧ cap ≤ 9223372036854775807 := by
  obtain ⟨pa, cap, e, h1, h2⟩ := h.form
  exact ⟨pa, cap, e, h1, by unfold maxLen at h2; omega⟩
/-- A function that is called as a value. -/
def Enters (f : FuncId) : Prop := ∀ (args : Array Value) (w : World), (callFunc f args).run Tryz.prog w = .ok (.enter f args) w
theorem enters {f : FuncId} {fn : Func} (hf : Tryz.prog.funcs[f]? = some fn) (hname : (fn.name == "runtime.NumGoroutine") = false) (hb : fn.body.isSome = true) : Enters f := fun args w => by
  obtain ⟨c, hb⟩ := Option.isSome_iff_exists.1 hb
  have h1 : fn.name ≠ "runtime.NumGoroutine" := by simpa using hname
  simp [callFunc, hf, h1, hb]
theorem enters_noSign : Enters 143 := enters Tryz.func143 (by kernel_rfl) (by kernel_rfl)
theorem enters_mayNot : Enters 117 := enters Tryz.func117 (by kernel_rfl) (by kernel_rfl)
set_option maxRecDepth 100000 in
set_option maxHeartbeats 1000000 in
theorem index_pro {P : Nat → Prop} (p : Gl → Bool) (f : FuncId) (he : Enters f) (hp : ∀ g w, Calls Tryz.prog f #[glV g] w (SaysL (.bool (p g)) w)) (l : List Gl) (v : Value) (w : World) (h : RdG P w v l) : Calls Tryz.prog 142 #[v, .func (.func f) #[] #[]] w (IdxPost p l w) := by
  obtain ⟨pa, cap, rfl, h1, h2⟩ := sliceG h
  have HH := Lib.hid h
  have HP := Lib.hid hp
  obtain ⟨n, hn⟩ : ∃ n, l.length = n := ⟨_, rfl⟩
  have HN := Lib.hid hn
  rw [hn] at HH h1 ⊢
  have hn62 : n ≤ 9223372036854775807 := by omega
  clear h hp hn h1
  go_enter Tryz.func142, Tryz.ntmps142
  go_wp2_with fail
  go_loopw [8] (fun i wr => ∃ k : Nat, i = .int .i64 k ∧ k ≤ n ∧ Hid (∀ j (hj : j < l.length), j < k → p l[j] = false) ∧ Hid (Below w.heap.size w wr)) (fun i _ => n - (intOf i).toNat)
  case atStart => exact ⟨0, rfl, Nat.zero_le _, Lib.hid (fun j _ h => absurd h (Nat.not_lt_zero _)), Lib.hid (Below.refl _ _)⟩
  case round =>
    obtain ⟨k, rfl, hk, HK, HB⟩ := hrel
    by_cases hlt : k < n
    · have hkl : k < l.length := by rw [HN.out]; exact hlt
      obtain ⟨b, off, rfl, _, hc⟩ := (HH.out.below HB.out).at_ hkl
      obtain ⟨x, hx⟩ : ∃ x, l[k] = x := ⟨_, rfl⟩
      rw [hx] at hc
      have HX := Lib.hid hx
      obtain ⟨c0, c1, c2, c3, c4⟩ := hc
      have HC := Lib.hid (HP.out x wr)
      obtain ⟨z, hz⟩ : ∃ z, p x = z := ⟨_, rfl⟩
      rw [hz] at HC
      have HZ := Lib.hid hz
      unfold glV at HC
      have hE := he #[.agg #[.string x.t, .int .i64 x.wd, .int .i64 x.at_, .int .i64 x.co, .int .i64 x.lk]] wr
      have k1 : (k : Int) < n := by omega
      have HLT := Lib.hid hlt
      clear hx hz hlt
      cases z with
      | true =>
        go_wp2_with fail
        refine HC.out.mono ?_
        rintro e w1 ⟨rfl, hb⟩
        have HB1 := Lib.hid (HB.out.trans (hb.mono HB.out.size))
        clear hb
        go_wp2_with fail
        go_ret
        exact ⟨_, rfl, .inr ⟨k, hkl, rfl, by rw [HX.out]; exact HZ.out, fun j hj => HK.out j (by omega) hj⟩, HB1.out⟩
      | false =>
        go_wp2_with fail
        refine HC.out.mono ?_
        rintro e w1 ⟨rfl, hb⟩
        have HB1 := Lib.hid (HB.out.trans (hb.mono HB.out.size))
        clear hb
        go_wp2_with fail
        go_roundw
        case measure => have := HLT.out; simp [intOf]; omega
        case rel =>
          refine ⟨k + 1, by go_num, HLT.out, Lib.hid (fun j hj hjk => ?_), HB1⟩
          rcases Nat.lt_or_ge j k with h | h
          · exact HK.out j hj h
          · obtain rfl : j = k := by omega
            rw [HX.out]; exact HZ.out
    · obtain rfl : k = n := by omega
      have hz1 : ¬ (k : Int) < k := by omega
      clear hlt
      go_wp2_with fail
      go_ret
      refine ⟨_, rfl, .inl ⟨rfl, fun g hg => ?_⟩, HB.out⟩
      obtain ⟨j, hj, rfl⟩ := List.mem_iff_getElem.1 hg
      exact HK.out j hj (by rw [← HN.out]; exact hj)
set_option maxRecDepth 100000 in
theorem contains_pro {P : Nat → Prop} (p : Gl → Bool) (f : FuncId) (he : Enters f) (hp : ∀ g w, Calls Tryz.prog f #[glV g] w (SaysL (.bool (p g)) w)) (l : List Gl) (v : Value) (w : World) (h : RdG P w v l) : Calls Tryz.prog 116 #[v, .func (.func f) #[] #[]] w (SaysL (.bool (l.any p)) w) := by
  obtain ⟨pa, cap, rfl, h1, h2⟩ := sliceG h
  have HI := Lib.hid (index_pro p f he hp l _ w h)
  clear h hp he h1 h2
  go_enter Tryz.func116, Tryz.ntmps116
  go_wp2_with fail
  refine HI.out.mono ?_
  rintro e w1 ⟨i, rfl, hi, hb⟩
  have HB := Lib.hid hb
  clear hb
  rcases hi with ⟨rfl, hall⟩ | ⟨k, hk, rfl, hpk, hq⟩
  · have e : l.any p = false := by rw [List.any_eq_false]; intro g hg; simp [hall g hg]
    have HE := Lib.hid e
    clear e hall
    go_wp2_with fail
    go_ret
    exact ⟨by rw [HE.out]; rfl, HB.out⟩
  · have e : l.any p = true := List.any_eq_true.2 ⟨_, List.getElem_mem hk, hpk⟩
    have HE := Lib.hid e
    have k0 : (0 : Int) ≤ k := by omega
    clear e hq hpk hk
    go_wp2_with fail
    go_ret
    exact ⟨by rw [HE.out]; rfl, HB.out⟩
theorem takeWhile_whole {p : Gl → Bool} : ∀ m : List Gl, (∀ g ∈ m, p g = true) → m.takeWhile p = m
  | [], _ => rfl
  | g :: m, h => by rw [List.takeWhile_cons, h g (by simp), takeWhile_whole m fun x hx => h x (List.mem_cons_of_mem _ hx)]; rfl
theorem firstW_idx {l : List Gl} {i : Int} (h : IdxIs noS l i) : (i = -1 ∧ firstW l = l) ∨ ∃ k : Nat, i = k ∧ k ≤ l.length ∧ (firstW l).length = k := by
  have hall : ∀ m : List Gl, (∀ g ∈ m, noS g = false) → firstW m = m := fun m h => takeWhile_whole m fun g hg => by simp [sgn, h g hg]
  rcases h with ⟨rfl, h⟩ | ⟨k, hk, rfl, h1, h2⟩
  · exact .inl ⟨rfl, hall l h⟩
  · refine .inr ⟨k, rfl, by omega, ?_⟩
    have e : l = l.take k ++ l[k] :: l.drop (k + 1) := by rw [List.getElem_cons_drop, List.take_append_drop]
    have hm : ∀ g ∈ l.take k, sgn g = true := fun g hg => by
      obtain ⟨j, hj, rfl⟩ := List.mem_iff_getElem.1 hg
      rw [List.length_take] at hj
      rw [List.getElem_take]
      simp [sgn, h2 j (by omega)]
    have h3 : firstW (l.take k ++ l[k] :: l.drop (k + 1)) = l.take k := by
      unfold firstW
      rw [List.takeWhile_append_of_pos hm, List.takeWhile_cons]
      simp [sgn, h1]
    rw [← e] at h3
    rw [h3, List.length_take]
    omega
/-- The word that a flow begins with. -/
def WordPost (pa : Option Addr) (cap : Nat) (l : List Gl) (w : World) (e : Ending) (w' : World) : Prop := e = .returned (.slice pa (firstW l).length cap) ∧ Below w.heap.size w w'
set_option maxRecDepth 100000 in
theorem beginning_pro {P : Nat → Prop} (l : List Gl) (pa : Option Addr) (cap : Nat) (w : World) (h : RdG P w (.slice pa l.length cap) l) : Calls Tryz.prog 147 #[.slice pa l.length cap] w (WordPost pa cap l w) := by
  have HI := Lib.hid (index_pro noS 143 enters_noSign noSign_pro l _ w h)
  obtain ⟨pa', cap', e, h1, h2⟩ := h.form
  cases e
  unfold maxLen at h2
  obtain ⟨n, hn⟩ : ∃ n, l.length = n := ⟨_, rfl⟩
  rw [hn] at HI h1 ⊢
  have HN := Lib.hid hn
  clear h hn
  go_enter Tryz.func147, Tryz.ntmps147
  go_wp2_with fail
  refine HI.out.mono ?_
  rintro e w1 ⟨i, rfl, hi, hb⟩
  have HB := Lib.hid hb
  clear hb
  rcases firstW_idx hi with ⟨rfl, hf⟩ | ⟨k, rfl, hk, hf⟩
  · have HF := Lib.hid hf
    clear hi hf
    go_wp2_with fail
    go_ret
    exact ⟨by rw [HF.out, HN.out]; rfl, HB.out⟩
  · have HF := Lib.hid hf
    have k0 : ¬ (k : Int) < 0 := by omega
    have k1 : (0 : Int) ≤ k := by omega
    have k2 : k ≤ cap := by rw [HN.out] at hk; omega
    have k3 : (k : Int) ≤ cap := by omega
    clear hi hf hk
    go_wp2_with fail
    go_ret
    exact ⟨by rw [HF.out]; rfl, HB.out⟩
theorem wid_take (l : List Gl) (k : Nat) (h : k < l.length) : wid (l.take (k + 1)) = wid (l.take k) + l[k].wd := by
  rw [List.take_succ_eq_append_getElem h, wid_app, wid_one]
def SmallW (l : List Gl) : Prop := ∀ g ∈ l, 0 ≤ g.wd ∧ g.wd ≤ 200
theorem wid_small : ∀ {l : List Gl}, SmallW l → 0 ≤ wid l ∧ wid l ≤ 200 * l.length
  | [], _ => by simp [wid]
  | g :: l, h => by
    have := wid_small (l := l) fun x hx => h x (List.mem_cons_of_mem _ hx)
    have := h g (by simp)
    simp only [wid, List.length_cons]
    omega
set_option maxRecDepth 100000 in
set_option maxHeartbeats 1000000 in
theorem wide_pro {P : Nat → Prop} (l : List Gl) (v : Value) (w : World) (h : RdG P w v l) (hl : l.length ≤ 140737488355328) (hs : SmallW l) : Calls Tryz.prog 152 #[v] w (SaysL (.int .i64 (wid l)) w) := by
  obtain ⟨pa, cap, rfl, h1, h2⟩ := sliceG h
  have HH := Lib.hid h
  obtain ⟨n, hn⟩ : ∃ n, l.length = n := ⟨_, rfl⟩
  have HN := Lib.hid hn
  have HS := Lib.hid hs
  rw [hn] at HH h1 ⊢
  have hn62 : n ≤ 140737488355328 := by omega
  clear h hn h1 hs hl
  go_enter Tryz.func152, Tryz.ntmps152
  go_wp2_with fail
  go_loopw [3, 8] (fun s i wr => ∃ k : Nat, i = .int .i64 k ∧ k ≤ n ∧ s = .int .i64 (wid (l.take k)) ∧ Hid (Below w.heap.size w wr)) (fun _ i _ => n - (intOf i).toNat)
  case atStart => exact ⟨0, rfl, Nat.zero_le _, rfl, Lib.hid (Below.refl _ _)⟩
  case round =>
    obtain ⟨k, rfl, hk, rfl, HB⟩ := hrel
    by_cases hlt : k < n
    · have hkl : k < l.length := by rw [HN.out]; exact hlt
      obtain ⟨b, off, rfl, _, hc⟩ := (HH.out.below HB.out).at_ hkl
      have hT := Lib.hid (wid_take l k hkl)
      have hsm := wid_small (l := l.take k) fun g hg => HS.out g (List.mem_of_mem_take hg)
      have hkk : (l.take k).length ≤ k := List.length_take_le _ _
      have hx1 := HS.out _ (List.getElem_mem hkl)
      obtain ⟨x, hx⟩ : ∃ x, l[k] = x := ⟨_, rfl⟩
      rw [hx] at hc hT hx1
      obtain ⟨c0, c1, c2, c3, c4⟩ := hc
      obtain ⟨s, hs⟩ : ∃ s, wid (l.take k) = s := ⟨_, rfl⟩
      rw [hs] at hT hsm ⊢
      have s1 : 0 ≤ s := hsm.1
      have s2 : s ≤ 200 * 140737488355328 := by omega
      have x1 := hx1.1
      have x2 := hx1.2
      have k1 : (k : Int) < n := by omega
      have HLT := Lib.hid hlt
      have HB1 := Lib.hid (HB.out.trans ((below_box wr (.cells #[.string x.t, .int .i64 x.wd, .int .i64 x.at_, .int .i64 x.co, .int .i64 x.lk] 44)).mono HB.out.size))
      clear hx hs hlt hsm hx1 hkk
      go_wp2_with fail
      go_roundw
      case measure => have := HLT.out; simp [intOf]; omega
      case rel => exact ⟨k + 1, by go_num, HLT.out, by rw [hT.out], HB1⟩
    · obtain rfl : k = n := by omega
      have hz1 : ¬ (k : Int) < k := by omega
      clear hlt
      go_wp2_with fail
      go_ret
      exact ⟨by rw [show l.take k = l by rw [← HN.out, List.take_length]]; rfl, HB.out⟩
end Go.Proofs.YtjohhahfpgfjdaaGreatDoor.Tb
end
section
namespace Go.Proofs.YtjohhahfpgfjdaaGreatDoor.Tb
open Go.RowKit Go.Maps
set_option linter.unusedVariables false
set_option linter.unusedSimpArgs false
/-- What a call leaves as it was: the blocks of K. -/
structure Kp (K : Nat → Prop) (w w' : World) : Prop where
  os : w'.os = w.os
  tape : w'.tape = w.tape
  output : w'.output = w.output
  size : w.heap.size ≤ w'.heap.size
  block : ∀ c, K c → w'.heap[c]? = w.heap[c]?
section
variable {K K' : Nat → Prop} {a w w' : World}
theorem Kp.refl (K : Nat → Prop) (w : World) : Kp K w w := ⟨rfl, rfl, rfl, Nat.le_refl _, fun _ _ => rfl⟩
theorem Kp.trans {b c : World} (h : Kp K a b) (k : Kp K b c) : Kp K a c := ⟨k.os.trans h.os, k.tape.trans h.tape, k.output.trans h.output, Nat.le_trans h.size k.size, fun i hi => (k.block i hi).trans (h.block i hi)⟩
theorem Kp.mono (h : Kp K w w') (hk : ∀ c, K' c → K c) : Kp K' w w' := ⟨h.os, h.tape, h.output, h.size, fun c hc => h.block c (hk c hc)⟩
theorem Kp.of (h : Below w.heap.size w w') (hK : ∀ c, K c → c < w.heap.size) : Kp K w w' := ⟨h.os, h.tape, h.output, h.size, fun c hc => h.block c (hK c hc)⟩
theorem Kp.below {B : Nat} (h : Kp K w w') (hK : ∀ c, c < B → K c) : Below B w w' := ⟨h.os, h.tape, h.output, h.size, fun c hc => h.block c (hK c hc)⟩
theorem Kp.drew (h : Kp K a w) : Kp K a w.drew := ⟨h.os, h.tape, h.output, h.size, h.block⟩
theorem Kp.alloc (h : Kp K a w) (hK : ∀ c, K c → c < w.heap.size) (o : Obj) : Kp K a (w.alloc o) := h.trans (Kp.of (below_box w o) hK)
theorem Kp.set (h : Kp K a w) {g : Nat} (k : Nat) (hg : ¬ K g) (u : Value) : Kp K a (w.setCell ⟨g, k, none⟩ u) :=
  ⟨h.os, h.tape, h.output, by simpa [World.setCell] using h.size, fun c hc => (Below.heap_setCell w ⟨g, k, none⟩ u c (fun e => hg (by simp only at e; rw [← e]; exact hc))).trans (h.block c hc)⟩
theorem Kp.grown {row : Option Nat} (h : Kp K a w) (hg : w.grownBy w' row) (hK : ∀ c, K c → c < w.heap.size ∧ row ≠ some c) : Kp K a w' :=
  ⟨hg.os.trans h.os, hg.tape.trans h.tape, hg.output.trans h.output, Nat.le_trans h.size hg.size, fun c hc => (hg.block c (hK c hc).1 (fun e => (hK c hc).2 e.symm)).trans (h.block c hc)⟩
end
/-- The box of a filling: the program's (true), the document's. -/
def bx (d : Bool) (wide : Int) (vo vl : Value) (u : Int) (vw : Value) : Obj :=
  match d with
  | true => .cells #[.int .i64 wide, vo, vl, .int .i64 u, vw] 196
  | false => .cells #[vo, vl, .int .i64 u, vw, .int .i64 wide] 196
def Told (B g : Nat) (vo vl : Value) (b : Nat) : Prop := B ≤ b ∧ b ≠ g ∧ vl.ownBlock ≠ some b ∧ vo.ownBlock ≠ some b
structure FlAt (d : Bool) (B g : Nat) (wide : Int) (K : Nat → Prop) (s : Fs) (u : Int) (vo vl vw : Value) (vs : List Value) (W : World) : Prop where
  base : B ≤ g
  blk : W.heap[g]? = some (bx d wide vo vl u vw)
  line : W.ownsRow B 44 5 vl s.line.length (rowsG s.line)
  out : OwnL B (Told B g vo vl) W vo s.out vs
  wait : RdG (Told B g vo vl) W vw s.wait
  apart : ∀ c, K c → c < W.heap.size ∧ c ≠ g ∧ vl.ownBlock ≠ some c ∧ vo.ownBlock ≠ some c
theorem bx_row (d : Bool) (wide : Int) (vo vl : Value) (u : Int) (vw : Value) : ∃ cs T, bx d wide vo vl u vw = .cells cs T (0, 0) ∧ 44 ≠ T ∧ 34 ≠ T := by
  cases d
  · exact ⟨_, _, rfl, by decide, by decide⟩
  · exact ⟨_, _, rfl, by decide, by decide⟩
section
variable {d : Bool} {B g : Nat} {wide u : Int} {K K' : Nat → Prop} {s : Fs} {vo vl vw : Value} {vs : List Value} {W W' : World}
theorem FlAt.ng (h : FlAt d B g wide K s u vo vl vw vs W) : vl.ownBlock ≠ some g ∧ vo.ownBlock ≠ some g ∧ g < W.heap.size := by
  obtain ⟨cs, T, e, h1, h2⟩ := bx_row d wide vo vl u vw
  have hb := h.blk
  rw [e] at hb
  exact ⟨own_not h.line hb h1, own_not h.out.row hb h2, (Array.getElem?_eq_some_iff.1 hb).1⟩
theorem FlAt.notKg (h : FlAt d B g wide K s u vo vl vw vs W) : ¬ K g := fun hc => (h.apart g hc).2.1 rfl
theorem FlAt.frozen (h : FlAt d B g wide K s u vo vl vw vs W) (k : Nat) : W.frozen? ⟨g, k, none⟩ = false := by
  obtain ⟨cs, T, e, _, _⟩ := bx_row d wide vo vl u vw
  have hb := h.blk
  rw [e] at hb
  exact frozen_of_row W g k _ _ hb
theorem bx_frozen {W : World} {g : Nat} (h : W.heap[g]? = some (bx d wide vo vl u vw)) (k : Nat) : W.frozen? ⟨g, k, none⟩ = false := by
  obtain ⟨cs, T, e, _, _⟩ := bx_row d wide vo vl u vw
  rw [e] at h
  exact frozen_of_row W g k _ _ h
theorem bx_cellsP {W : World} {g : Nat} (h : W.heap[g]? = some (bx true wide vo vl u vw)) : W.cell? ⟨g, 0, none⟩ = some (.int .i64 wide) ∧ W.cell? ⟨g, 1, none⟩ = some vo ∧ W.cell? ⟨g, 2, none⟩ = some vl ∧ W.cell? ⟨g, 3, none⟩ = some (.int .i64 u) ∧ W.cell? ⟨g, 4, none⟩ = some vw := by
  unfold bx at h
  refine ⟨?_, ?_, ?_, ?_, ?_⟩ <;> rw [cell_of_row _ _ _ _ _ _ h] <;> rfl
/-- Behind a step that leaves all old blocks. -/
theorem FlAt.below (h : FlAt d B g wide K s u vo vl vw vs W) (hb : Below W.heap.size W W') : FlAt d B g wide K s u vo vl vw vs W' :=
  ⟨h.base, (hb.block g h.ng.2.2).trans h.blk, own_below h.line hb, h.out.below hb, h.wait.below hb, fun c hc => ⟨Nat.lt_of_lt_of_le (h.apart c hc).1 hb.size, (h.apart c hc).2⟩⟩
theorem FlAt.drew (h : FlAt d B g wide K s u vo vl vw vs W) : FlAt d B g wide K s u vo vl vw vs W.drew :=
  ⟨h.base, h.blk, h.line, ⟨h.out.num, h.out.row, fun j hj => (h.out.line j hj).keep fun _ _ _ => rfl⟩, h.wait.keep fun _ _ _ => rfl, h.apart⟩
theorem FlAt.less (h : FlAt d B g wide K s u vo vl vw vs W) (hk : ∀ c, K' c → K c) : FlAt d B g wide K' s u vo vl vw vs W := ⟨h.base, h.blk, h.line, h.out, h.wait, fun c hc => h.apart c (hk c hc)⟩
theorem FlAt.more (h : FlAt d B g wide K s u vo vl vw vs W) (o : Obj) : FlAt d B g wide (fun c => K c ∨ c = W.heap.size) s u vo vl vw vs (W.alloc o) := by
  have hb := below_box W o
  have h' := h.below hb
  refine ⟨h'.base, h'.blk, h'.line, h'.out, h'.wait, fun c hc => ?_⟩
  rcases hc with hc | rfl
  · exact h'.apart c hc
  · have n := h.ng.2.2
    refine ⟨by simp, by omega, fun e => ?_, fun e => ?_⟩
    · have := (own_base h.line e).2; omega
    · have := (own_base h.out.row e).2; omega
/-- Only the box is another. -/
theorem FlAt.rebox (h : FlAt d B g wide K s u vo vl vw vs W) {u' : Int} {vw' : Value} {wt : List Gl} (hs : W'.heap.size = W.heap.size) (hg : W'.heap[g]? = some (bx d wide vo vl u' vw')) (hk : ∀ c, c ≠ g → W'.heap[c]? = W.heap[c]?) (hw : RdG (Told B g vo vl) W' vw' wt) :
    FlAt d B g wide K ⟨s.out, s.line, wt⟩ u' vo vl vw' vs W' := by
  have n := h.ng
  have kc : ∀ a : Addr, Told B g vo vl a.block → a.block < W.heap.size → W'.cell? a = W.cell? a := fun a ha _ => World.cell?_of_block (hk _ ha.2.1)
  exact ⟨h.base, hg, own_stays h.line fun c e => hk c (fun e' => n.1 (by rw [← e']; exact e)), h.out.keep (fun c e => hk c (fun e' => n.2.1 (by rw [← e']; exact e))) kc, hw, fun c hc => by rw [hs]; exact h.apart c hc⟩
/-- Behind an append to the line, and the store of it. -/
theorem FlAt.push (h : FlAt d B g wide K s u vo vl vw vs W) {W3 W4 : World} {g' cap : Nat} {u' : Int} {xs : List Gl} {m : Nat} (hm : m = s.line.length + xs.length) (hg : W.grownBy W3 vl.ownBlock)
    (ho : W3.ownsRow B 44 5 (.slice (some ⟨g', 0, none⟩) m cap) m (rowsG s.line ++ rowsG xs)) (hat : vl.ownBlock = some g' ∨ g' = W.heap.size)
    (hs : W4.heap.size = W3.heap.size) (hg4 : W4.heap[g]? = some (bx d wide vo (.slice (some ⟨g', 0, none⟩) m cap) u' vw)) (hk : ∀ c, c ≠ g → W4.heap[c]? = W3.heap[c]?) :
    FlAt d B g wide K ⟨s.out, s.line ++ xs, s.wait⟩ u' vo (.slice (some ⟨g', 0, none⟩) m cap) vw vs W4 ∧ (∀ c, K c → W4.heap[c]? = W.heap[c]?) := by
  have n := h.ng
  have ne' : ∀ c, c < W.heap.size → vl.ownBlock ≠ some c → g' ≠ c := fun c hc hne e => by
    rcases hat with e1 | e1
    · exact hne (by rw [e1, e])
    · omega
  have old : ∀ c, c < W.heap.size → c ≠ g → vl.ownBlock ≠ some c → W4.heap[c]? = W.heap[c]? := fun c hc h1 h2 => (hk c h1).trans (hg.block c hc (fun e => h2 e.symm))
  have tl : ∀ b, b < W.heap.size → Told B g vo vl b → Told B g vo (.slice (some ⟨g', 0, none⟩) m cap) b := fun b hb hT => ⟨hT.1, hT.2.1, fun e => ne' b hb hT.2.2.1 (Option.some.inj e), hT.2.2.2⟩
  have og : g' ≠ g := by
    rcases hat with e1 | e1
    · intro e; exact n.1 (by rw [e1, e])
    · omega
  have mv : ∀ b, Told B g vo vl b → b < W.heap.size → W4.heap[b]? = W.heap[b]? ∧ Told B g vo (.slice (some ⟨g', 0, none⟩) m cap) b := fun b hT hb => ⟨old b hb hT.2.1 hT.2.2.1, tl b hb hT⟩
  refine ⟨⟨h.base, hg4, ?_, ?_, h.wait.move mv, fun c hc => ?_⟩, fun c hc => old c (h.apart c hc).1 (h.apart c hc).2.1 (h.apart c hc).2.2.1⟩
  · rw [rowsG_app]
    have := own_stays (W' := W4) ho fun c e => hk c (by simp [Value.ownBlock] at e; omega)
    rw [hm] at this ⊢
    simpa using this
  · exact ⟨h.out.num, own_stays h.out.row fun c e => old c (own_base h.out.row e).2 (fun e' => n.2.1 (by rw [← e']; exact e)) (fun e2 => own_ne h.line h.out.row (by decide) e2 e), fun j hj => (h.out.line j hj).move mv⟩
  · have a := h.apart c hc
    refine ⟨?_, a.2.1, fun e => ne' c a.1 a.2.2.1 (Option.some.inj e), a.2.2.2⟩
    rw [hs]
    exact Nat.lt_of_lt_of_le a.1 hg.size
/-- Behind the append of the line to those that were told, and the store of them and of an empty line. -/
theorem FlAt.told (h : FlAt d B g wide K s u vo vl vw vs W) {W3 W4 : World} {g' cap : Nat} (hg : W.grownBy W3 vo.ownBlock)
    (ho : W3.ownsRow B 34 1 (.slice (some ⟨g', 0, none⟩) (s.out.length + 1) cap) (s.out.length + 1) (vs ++ [vl])) (hat : vo.ownBlock = some g' ∨ g' = W.heap.size)
    (hs : W4.heap.size = W3.heap.size) (hg4 : W4.heap[g]? = some (bx d wide (.slice (some ⟨g', 0, none⟩) (s.out.length + 1) cap) (.slice none 0 0) 0 (.slice none 0 0))) (hk : ∀ c, c ≠ g → W4.heap[c]? = W3.heap[c]?) :
    FlAt d B g wide K (endS s) 0 (.slice (some ⟨g', 0, none⟩) (s.out.length + 1) cap) (.slice none 0 0) (.slice none 0 0) (vs ++ [vl]) W4 ∧ (∀ c, K c → W4.heap[c]? = W.heap[c]?) := by
  have n := h.ng
  have ne' : ∀ c, c < W.heap.size → vo.ownBlock ≠ some c → g' ≠ c := fun c hc hne e => by
    rcases hat with e1 | e1
    · exact hne (by rw [e1, e])
    · omega
  have old : ∀ c, c < W.heap.size → c ≠ g → vo.ownBlock ≠ some c → W4.heap[c]? = W.heap[c]? := fun c hc h1 h2 => (hk c h1).trans (hg.block c hc (fun e => h2 e.symm))
  have og : g' ≠ g := by
    rcases hat with e1 | e1
    · intro e; exact n.2.1 (by rw [e1, e])
    · omega
  have mv : ∀ b, Told B g vo vl b → b < W.heap.size → W4.heap[b]? = W.heap[b]? ∧ Told B g (.slice (some ⟨g', 0, none⟩) (s.out.length + 1) cap) (.slice none 0 0) b := fun b hT hb => ⟨old b hb hT.2.1 hT.2.2.2, hT.1, hT.2.1, (fun e => by simp [Value.ownBlock] at e), fun e => ne' b hb hT.2.2.2 (Option.some.inj e)⟩
  have hl := RdG.own h.line rfl
  have hl4 : RdG (Told B g (.slice (some ⟨g', 0, none⟩) (s.out.length + 1) cap) (.slice none 0 0)) W4 vl s.line := hl.move fun b hb hlt => by
    have h1 : vo.ownBlock ≠ some b := own_ne h.line h.out.row (by decide) hb.1
    have h2 : b ≠ g := fun e => n.1 (by rw [← e]; exact hb.1)
    exact ⟨old b hlt h2 h1, hb.2, h2, (fun e => by simp [Value.ownBlock] at e), fun e => ne' b hlt h1 (Option.some.inj e)⟩
  refine ⟨⟨h.base, hg4, World.ownsRow_nil _ _ _ _, h.out.push hl4 (own_stays ho fun c e => hk c (by simp [Value.ownBlock] at e; omega)) mv, RdG.nil _ 0 (by unfold maxLen; omega) _, fun c hc => ?_⟩, fun c hc => old c (h.apart c hc).1 (h.apart c hc).2.1 (h.apart c hc).2.2.2⟩
  · have a := h.apart c hc
    refine ⟨?_, a.2.1, (fun e => by simp [Value.ownBlock] at e), fun e => ne' c a.1 a.2.2.2 (Option.some.inj e)⟩
    rw [hs]
    exact Nat.lt_of_lt_of_le a.1 hg.size
end
/-- A filling in memory. -/
def Fl (d : Bool) (B g : Nat) (wide : Int) (K : Nat → Prop) (s : Fs) (W : World) : Prop := ∃ vo vl vw vs, FlAt d B g wide K s (wid s.line) vo vl vw vs W
def FlPost (d : Bool) (B g : Nat) (wide : Int) (K : Nat → Prop) (s : Fs) (v : Value) (w : World) (e : Ending) (w' : World) : Prop := e = .returned v ∧ Fl d B g wide K s w' ∧ Kp K w w'
section
variable {d : Bool} {B g : Nat} {wide : Int} {K K' : Nat → Prop} {s : Fs} {W W' : World}
theorem Fl.below (h : Fl d B g wide K s W) (hb : Below W.heap.size W W') : Fl d B g wide K s W' := by
  obtain ⟨vo, vl, vw, vs, h⟩ := h
  exact ⟨_, _, _, _, h.below hb⟩
theorem Fl.drew (h : Fl d B g wide K s W) : Fl d B g wide K s W.drew := by
  obtain ⟨vo, vl, vw, vs, h⟩ := h
  exact ⟨_, _, _, _, h.drew⟩
theorem Fl.less (h : Fl d B g wide K s W) (hk : ∀ c, K' c → K c) : Fl d B g wide K' s W := by
  obtain ⟨vo, vl, vw, vs, h⟩ := h
  exact ⟨_, _, _, _, h.less hk⟩
theorem Fl.more (h : Fl d B g wide K s W) (o : Obj) : Fl d B g wide (fun c => K c ∨ c = W.heap.size) s (W.alloc o) := by
  obtain ⟨vo, vl, vw, vs, h⟩ := h
  exact ⟨_, _, _, _, h.more o⟩
theorem Fl.lt (h : Fl d B g wide K s W) : ∀ c, K c → c < W.heap.size := by
  obtain ⟨vo, vl, vw, vs, h⟩ := h
  exact fun c hc => (h.apart c hc).1
theorem Fl.notK (h : Fl d B g wide K s W) : ¬ K g := by
  obtain ⟨vo, vl, vw, vs, h⟩ := h
  exact fun hc => (h.apart g hc).2.1 rfl
end
end Go.Proofs.YtjohhahfpgfjdaaGreatDoor.Tb
end
section
namespace Go.Proofs.YtjohhahfpgfjdaaGreatDoor.Tb
open Go.RowKit Go.Maps
set_option linter.unusedVariables false
set_option linter.unusedSimpArgs false
set_option maxRecDepth 100000 in
set_option maxHeartbeats 4000000 in
theorem put_pro {B g : Nat} {wide : Int} {K : Nat → Prop} {s : Fs} (x : Gl) (w : World) (h : Fl true B g wide K s w) (hl : s.line.length ≤ 100000) (h0 : 0 ≤ wid s.line) (h1 : wid s.line ≤ 100000) (hx : 0 ≤ x.wd ∧ x.wd ≤ 2) :
    Calls Tryz.prog 157 #[.pointer (some ⟨g, 0, none⟩), glV x] w (FlPost true B g wide K (putS s x) (.tuple #[]) w) := by
  obtain ⟨i0, hi0, hz0, hz1, hz2⟩ := info_parts infoG
  obtain ⟨vo, vl, vw, vs, hF⟩ := h
  have hA := below_box w (boxG x)
  have HA := Lib.hid hA
  have hF1 := hF.below hA
  have hKl := fun c hc => (hF.apart c hc).1
  have HK1 := Lib.hid (Kp.of hA hKl)
  obtain ⟨u, hu⟩ : ∃ u, wid s.line = u := ⟨_, rfl⟩
  rw [hu] at hF1 h0 h1
  have HU := Lib.hid hu
  have L1 := Lib.hid (show s.line.length + 1 ≤ maxLen by unfold maxLen; omega)
  have L2 := Lib.hid (show (s.line.length + 1) * 48 ≤ 140737488355328 by omega)
  have x1 := hx.1
  have x2 := hx.2
  obtain ⟨W1, hW1⟩ : ∃ W1, w.alloc (boxG x) = W1 := ⟨_, rfl⟩
  have hX := heap_alloc_new w (boxG x)
  obtain ⟨b, hb⟩ : ∃ b, w.heap.size = b := ⟨_, rfl⟩
  have hbg : b ≠ g := by have := hF.ng.2.2; omega
  have hbl : vl.ownBlock ≠ some b := fun e => by have := (own_base hF.line e).2; omega
  rw [hW1] at hF1 hX HK1
  rw [hb] at hX
  have hbW : b < W1.heap.size := (Array.getElem?_eq_some_iff.1 hX).1
  have HXC : Hid (∀ W2 : World, W2.heap[b]? = some (boxG x) → W2.cell? ⟨b, 0, none⟩ = some (.string x.t) ∧ W2.cell? ⟨b, 1, none⟩ = some (.int .i64 x.wd) ∧ W2.cell? ⟨b, 2, none⟩ = some (.int .i64 x.at_) ∧ W2.cell? ⟨b, 3, none⟩ = some (.int .i64 x.co) ∧ W2.cell? ⟨b, 4, none⟩ = some (.int .i64 x.lk)) := Lib.hid (fun W2 h2 => by
    unfold boxG at h2
    refine ⟨?_, ?_, ?_, ?_, ?_⟩ <;> rw [cell_of_row _ _ _ _ _ _ h2] <;> rfl)
  have HX := Lib.hid hX
  obtain ⟨d0, d1, d2, d3, d4⟩ := HXC.out W1 hX
  have q := bx_cellsP hF1.blk
  obtain ⟨q0, q1, q2, q3, q4⟩ := q
  have HF1 := Lib.hid hF1
  have hB2 := below_box W1.drew (boxG x)
  have HF2 := Lib.hid (hF1.drew.below hB2)
  have L3 := Lib.hid (show B ≤ (W1.drew.alloc (boxG x)).heap.size by have := hF1.base; have := hF1.ng.2.2; have : W1.heap.size ≤ _ := hB2.size; omega)
  have qA : (W1.alloc (boxG x)).cell? ⟨g, 2, none⟩ = some vl := (bx_cellsP (hF1.below (below_box W1 (boxG x))).blk).2.2.1
  have HKl1 := Lib.hid (fun c (hc : K c) => (hF1.apart c hc).1)
  have HK2 := Lib.hid ((HK1.out.drew).trans (Kp.of hB2 (fun c hc => (hF1.apart c hc).1)))
  have HAP := Lib.hid (fun c (hc : K c) => (show c < (W1.drew.alloc (boxG x)).heap.size ∧ vl.ownBlock ≠ some c from ⟨((hF1.drew.below hB2).apart c hc).1, (hF1.apart c hc).2.2.1⟩))
  have HXB := Lib.hid (show (W1.drew.alloc (boxG x)).heap[b]? = some (boxG x) from (Below.heap_alloc _ _ _ hbW).trans hX)
  have HBL := Lib.hid (show b < (W1.drew.alloc (boxG x)).heap.size from (Array.getElem?_eq_some_iff.1 HXB.out).1)
  have HNG := Lib.hid hF1.ng
  have HNW := Lib.hid hF.notKg
  have mixed : Tryz.prog.follows .mixedOrders = true := by kernel_rfl
  unfold boxG at hW1 L3 qA HF2 HK2 HAP HXB HBL
  unfold glV
  clear hA hF hF1 hu hKl hB2 hX hl hx
  go_enter Tryz.func157, Tryz.ntmps157
  go_wp2_with fail
  try simp only [hW1, hb]
  go_region_law (refine step_append_lies _ rfl (.tmp 8) (.tmp 10) 34 rfl B 44 i0 _ 5 48 Tryz.underlying34 hi0 hz0 hz1 hz2 rfl (by decide) vl s.line.length (rowsG s.line) (by simp [Act.eval]) HF2.out.line ⟨W1.heap.size, 0, none⟩ 1 1 (glRow x) (by simp [Act.eval]) rfl (cells_newL _ _ _) (glRow_one x) (by decide) L1.out L2.out L3.out _ rfl ?_; intro g' cap w3 hown' hgrow hat _; have hgk := hgrow.block g HF2.out.ng.2.2 (fun e => HNG.out.1 e.symm); have hg3 := hgk.trans HF2.out.blk; obtain ⟨r0, r1, r2, r3, r4⟩ := bx_cellsP hg3; have f2 := bx_frozen hg3 2; have HW3 := Lib.hid hown'; have HGR := Lib.hid hgrow; have HAT := Lib.hid hat; have HG3 := Lib.hid hg3; clear hown' hgrow hat hgk hg3)
  all_goals
    have hg4 : (w3.setCell ⟨g, 2, none⟩ (.slice (some ⟨g', 0, none⟩) (s.line.length + 1) cap)).heap[g]? = some (bx true wide vo (.slice (some ⟨g', 0, none⟩) (s.line.length + 1) cap) u vw) := heap_setCell_same w3 g 2 _ _ _ HG3.out
    have hb4 : (w3.setCell ⟨g, 2, none⟩ (.slice (some ⟨g', 0, none⟩) (s.line.length + 1) cap)).heap[b]? = some (boxG x) := (Below.heap_setCell _ _ _ _ hbg).trans ((HGR.out.block b HBL.out (fun e => hbl e.symm)).trans HXB.out)
    have HK4 := Lib.hid ((HK2.out.grown HGR.out HAP.out).set 2 HNW.out (.slice (some ⟨g', 0, none⟩) (s.line.length + 1) cap))
    obtain ⟨W4, hW4⟩ : ∃ W4, w3.setCell ⟨g, 2, none⟩ (.slice (some ⟨g', 0, none⟩) (s.line.length + 1) cap) = W4 := ⟨_, rfl⟩
    have HW4 := Lib.hid hW4
    rw [hW4] at hg4 hb4 HK4
    try simp only [hW4]
    obtain ⟨y0, y1, y2, y3, y4⟩ := bx_cellsP hg4
    obtain ⟨z0, z1, z2, z3, z4⟩ := HXC.out W4 hb4
    have f3 := bx_frozen hg4 3
    have HG4 := Lib.hid hg4
    clear hg4 hb4 hW4 d0 d1 d2 d3 d4 q0 q1 q2 q3 q4 qA r0 r1 r2 r3 r4 f2
    go_wp2_with fail
    go_region
    all_goals
      go_wp2_with fail
      go_end0
      have hg5 : (W4.drew.setCell ⟨g, 3, none⟩ (.int .i64 (u + x.wd))).heap[g]? = some (bx true wide vo (.slice (some ⟨g', 0, none⟩) (s.line.length + 1) cap) (u + x.wd) vw) := heap_setCell_same W4 g 3 _ _ _ HG4.out
      have hp := HF2.out.push (xs := [x]) rfl HGR.out (by rw [show rowsG [x] = glRow x from by simp [rowsG]]; exact HW3.out) HAT.out (W4 := W4.drew.setCell ⟨g, 3, none⟩ (.int .i64 (u + x.wd))) (by have := HW4.out; simp [World.setCell, ← this, World.drew]) hg5 (fun c hc => (Below.heap_setCell _ _ _ _ hc).trans (by have := HW4.out; rw [← this]; exact Below.heap_setCell _ _ _ _ hc))
      exact ⟨rfl, ⟨_, _, _, _, by have := hp.1; simp only [putS, wid_app, wid_one, HU.out]; exact this⟩, (HK4.out.drew).set 3 HNW.out _⟩
set_option maxRecDepth 100000 in
set_option maxHeartbeats 4000000 in
theorem end_pro {B g : Nat} {wide : Int} {K : Nat → Prop} {s : Fs} (w : World) (h : Fl true B g wide K s w) (hl : (s.out.length + 1) * 24 ≤ 140737488355328) :
    Calls Tryz.prog 146 #[.pointer (some ⟨g, 0, none⟩)] w (FlPost true B g wide K (endS s) (.tuple #[]) w) := by
  obtain ⟨i0, hi0, hz0, hz1, hz2⟩ := info_parts infoL
  obtain ⟨vo, vl, vw, vs, hF⟩ := h
  obtain ⟨pl, cl, rfl⟩ := lenL hF.line
  have hB2 := below_box w.drew (.cells #[.slice pl s.line.length cl] 34)
  have HF2 := Lib.hid (hF.drew.below hB2)
  have HK2 := Lib.hid (((Kp.refl K w).drew).trans (Kp.of hB2 (fun c hc => (hF.apart c hc).1)))
  have L1 := Lib.hid (show s.out.length + 1 ≤ maxLen by unfold maxLen; omega)
  have L2 := Lib.hid (show (s.out.length + 1) * 24 ≤ 140737488355328 by omega)
  have L3 := Lib.hid (show B ≤ (w.drew.alloc (.cells #[.slice pl s.line.length cl] 34)).heap.size by have := hF.base; have := hF.ng.2.2; have : w.heap.size ≤ _ := hB2.size; omega)
  obtain ⟨u, hu⟩ : ∃ u, wid s.line = u := ⟨_, rfl⟩
  rw [hu] at hF HF2
  obtain ⟨q0, q1, q2, q3, q4⟩ := bx_cellsP hF.blk
  have qA : ∀ i v, w.cell? ⟨g, i, none⟩ = some v → (w.alloc (.cells #[.slice pl s.line.length cl] 34)).cell? ⟨g, i, none⟩ = some v := fun i v hc => ((below_box w _).cell (p := ⟨g, i, none⟩) hF.ng.2.2).trans hc
  have qA0 := qA 2 _ q2
  have qA1 := qA 1 _ q1
  have HNG := Lib.hid hF.ng
  have HNW := Lib.hid hF.notKg
  have HAP := Lib.hid (fun c (hc : K c) => (show c < (w.drew.alloc (.cells #[.slice pl s.line.length cl] 34)).heap.size ∧ vo.ownBlock ≠ some c from ⟨((hF.drew.below hB2).apart c hc).1, (hF.apart c hc).2.2.2⟩))
  have H1 := Lib.hid (own_one hF.line)
  have hon : ∀ u ∈ [Value.slice pl s.line.length cl], u.oneCell' = true := fun u hu => by
    rw [List.mem_singleton] at hu
    rw [hu]; exact H1.out
  have HON := Lib.hid hon
  have mixed : Tryz.prog.follows .mixedOrders = true := by kernel_rfl
  clear hF hu hB2 hl qA hon
  go_enter Tryz.func146, Tryz.ntmps146
  go_wp2_with fail
  go_region_law (refine step_append_lies _ rfl (.tmp 6) (.tmp 11) 25 rfl B 34 i0 _ 1 24 Tryz.underlying25 hi0 hz0 hz1 hz2 rfl (by decide) vo s.out.length vs (by simp [Act.eval]) HF2.out.out.row ⟨w.heap.size, 0, none⟩ 1 1 [.slice pl s.line.length cl] (by simp [Act.eval, Value.cells]) rfl (cells_newL _ _ _) HON.out (by decide) L1.out L2.out L3.out _ rfl ?_; intro g' cap w3 hown' hgrow hat _; have hgk := hgrow.block g HF2.out.ng.2.2 (fun e => HNG.out.2.1 e.symm); have hg3 := hgk.trans HF2.out.blk; obtain ⟨r0, r1, r2, r3, r4⟩ := bx_cellsP hg3; have f2 := bx_frozen hg3 1; have HW3 := Lib.hid hown'; have HGR := Lib.hid hgrow; have HAT := Lib.hid hat; have HG3 := Lib.hid hg3; clear hown' hgrow hat hgk hg3)
  all_goals
    clear q0 q1 q2 q3 q4 qA0 qA1
    have hg4 : (w3.setCell ⟨g, 1, none⟩ (.slice (some ⟨g', 0, none⟩) (s.out.length + 1) cap)).heap[g]? = some (bx true wide (.slice (some ⟨g', 0, none⟩) (s.out.length + 1) cap) (.slice pl s.line.length cl) u vw) := heap_setCell_same w3 g 1 _ _ _ HG3.out
    have hg5 : ((w3.setCell ⟨g, 1, none⟩ (.slice (some ⟨g', 0, none⟩) (s.out.length + 1) cap)).setCell ⟨g, 2, none⟩ (.slice none 0 0)).heap[g]? = some (bx true wide (.slice (some ⟨g', 0, none⟩) (s.out.length + 1) cap) (.slice none 0 0) u vw) := heap_setCell_same _ g 2 _ _ _ hg4
    have hg6 : (((w3.setCell ⟨g, 1, none⟩ (.slice (some ⟨g', 0, none⟩) (s.out.length + 1) cap)).setCell ⟨g, 2, none⟩ (.slice none 0 0)).setCell ⟨g, 3, none⟩ (.int .i64 0)).heap[g]? = some (bx true wide (.slice (some ⟨g', 0, none⟩) (s.out.length + 1) cap) (.slice none 0 0) 0 vw) := heap_setCell_same _ g 3 _ _ _ hg5
    have hg7 : ((((w3.setCell ⟨g, 1, none⟩ (.slice (some ⟨g', 0, none⟩) (s.out.length + 1) cap)).setCell ⟨g, 2, none⟩ (.slice none 0 0)).setCell ⟨g, 3, none⟩ (.int .i64 0)).setCell ⟨g, 4, none⟩ (.slice none 0 0)).heap[g]? = some (bx true wide (.slice (some ⟨g', 0, none⟩) (s.out.length + 1) cap) (.slice none 0 0) 0 (.slice none 0 0)) := heap_setCell_same _ g 4 _ _ _ hg6
    have e4 := bx_cellsP hg4
    have e5 := bx_cellsP hg5
    have e6 := bx_cellsP hg6
    obtain ⟨a0, a1, a2, a3, a4⟩ := e4
    obtain ⟨b0, b1, b2, b3, b4⟩ := e5
    obtain ⟨c0, c1, c2, c3, c4⟩ := e6
    have k4 := bx_frozen hg4 2
    have k5 := bx_frozen hg5 3
    have k6 := bx_frozen hg6 4
    have HG7 := Lib.hid hg7
    have HK7 := Lib.hid ((((((HK2.out.grown HGR.out HAP.out).set 1 HNW.out (.slice (some ⟨g', 0, none⟩) (s.out.length + 1) cap)).set 2 HNW.out (.slice none 0 0)).set 3 HNW.out (.int .i64 0)).set 4 HNW.out (.slice none 0 0)))
    clear hg4 hg5 hg6 hg7 r0 r1 r2 r3 r4 f2
    go_wp2_with fail
    go_end0
    have hp := HF2.out.told HGR.out HW3.out HAT.out (W4 := ((((w3.setCell ⟨g, 1, none⟩ (.slice (some ⟨g', 0, none⟩) (s.out.length + 1) cap)).setCell ⟨g, 2, none⟩ (.slice none 0 0)).setCell ⟨g, 3, none⟩ (.int .i64 0)).setCell ⟨g, 4, none⟩ (.slice none 0 0))) (by simp [World.setCell]) HG7.out (fun c hc => (Below.heap_setCell _ _ _ _ hc).trans ((Below.heap_setCell _ _ _ _ hc).trans ((Below.heap_setCell _ _ _ _ hc).trans (Below.heap_setCell _ _ _ _ hc))))
    exact ⟨rfl, ⟨_, _, _, _, hp.1⟩, HK7.out⟩
end Go.Proofs.YtjohhahfpgfjdaaGreatDoor.Tb
end
section
namespace Go.Proofs.YtjohhahfpgfjdaaGreatDoor.Tb
open Go.RowKit Go.Maps
set_option linter.unusedVariables false
set_option linter.unusedSimpArgs false
theorem dn_below {B : Nat} {a w : World} (h : Below B a w) (n : Nat) : Below B a (w.drewN n) := ⟨h.os, h.tape, h.output, h.size, h.block⟩
set_option maxRecDepth 100000 in
set_option maxHeartbeats 1000000 in
theorem fitting_pro (wide : Int) (gb : Nat) (x : Gl) (w : World) (hw : w.cell? ⟨gb, 0, none⟩ = some (.int .i64 wide)) : Calls Tryz.prog 159 #[.pointer (some ⟨gb, 0, none⟩), glV x] w (MakesG (fitG wide x) w) := by
  have hgb := cellInL hw
  unfold glV
  by_cases hlt : wide < x.wd
  · have HF := Lib.hid (show fitG wide x = ⟨bl1 63, 1, x.at_, x.co, x.lk⟩ by unfold fitG; rw [if_pos hlt])
    go_enter Tryz.func159, Tryz.ntmps159
    go_wp2_with fail
    go_quiet (fail)
    go_wp2_with fail
    refine bodyPost_ret (v := glV ⟨bl1 63, 1, x.at_, x.co, x.lk⟩) ?_ rfl ⟨by rw [HF.out], ?_⟩
    · simp [results, Tryz.results159, go_sem, glV, bl1]
    · exact (((((((dn_below ((below_box w _).alloc (by simp) _) _).setCell (Nat.le_refl _) _).setCell (Nat.le_refl _) _).setCell (by simp) _).setCell (by simp) _).setCell (by simp) _).setCell (by simp) _).setCell (by simp) _
  · have HF := Lib.hid (show fitG wide x = x by unfold fitG; rw [if_neg hlt])
    go_enter Tryz.func159, Tryz.ntmps159
    go_wp2_with fail
    go_quiet (fail)
    go_wp2_with fail
    refine bodyPost_ret (v := glV x) ?_ rfl ⟨by rw [HF.out], ?_⟩
    · simp [results, Tryz.results159, go_sem, glV, bl1]
    · exact (((((dn_below ((below_box w _).alloc (by simp) _) _).setCell (by simp) _).setCell (by simp) _).setCell (by simp) _).setCell (by simp) _).setCell (by simp) _
def fitL (wide : Int) (l : List Gl) : List Gl := l.map (fitG wide)
theorem fitL_take (wide : Int) (l : List Gl) (k : Nat) (h : k < l.length) : wid (fitL wide (l.take (k + 1))) = wid (fitL wide (l.take k)) + (fitG wide l[k]).wd := by
  unfold fitL
  rw [List.take_succ_eq_append_getElem h, List.map_append, wid_app]
  simp [wid]
set_option maxRecDepth 100000 in
set_option maxHeartbeats 1000000 in
theorem wideOf_pro {P : Nat → Prop} (wide : Int) (gb : Nat) (l : List Gl) (v : Value) (w : World) (h : RdG P w v l) (hl : l.length ≤ 140737488355328) (hs : SmallW (fitL wide l)) (hw : w.cell? ⟨gb, 0, none⟩ = some (.int .i64 wide)) : Calls Tryz.prog 158 #[.pointer (some ⟨gb, 0, none⟩), v] w (SaysL (.int .i64 (wid (fitL wide l))) w) := by
  obtain ⟨pa, cap, rfl, h1, h2⟩ := sliceG h
  have HH := Lib.hid h
  have HCW := Lib.hid hw
  have HS := Lib.hid hs
  obtain ⟨n, hn⟩ : ∃ n, l.length = n := ⟨_, rfl⟩
  have HN := Lib.hid hn
  rw [hn] at HH h1 ⊢
  have hn62 : n ≤ 140737488355328 := by omega
  clear h hn h1 hl hs hw
  go_enter Tryz.func158, Tryz.ntmps158
  go_wp2_with fail
  go_loopw [5, 10] (fun s i wr => ∃ k : Nat, i = .int .i64 k ∧ k ≤ n ∧ s = .int .i64 (wid (fitL wide (l.take k))) ∧ Hid (Below w.heap.size w wr)) (fun _ i _ => n - (intOf i).toNat)
  case atStart => exact ⟨0, rfl, Nat.zero_le _, rfl, Lib.hid (Below.refl _ _)⟩
  case round =>
    obtain ⟨k, rfl, hk, rfl, HB⟩ := hrel
    by_cases hlt : k < n
    · have hkl : k < l.length := by rw [HN.out]; exact hlt
      obtain ⟨b, off, rfl, _, hc⟩ := (HH.out.below HB.out).at_ hkl
      have hT := Lib.hid (fitL_take wide l k hkl)
      have hsm := wid_small (l := fitL wide (l.take k)) fun g hg => HS.out g (by
        obtain ⟨y, hy, rfl⟩ := List.mem_map.1 hg
        exact List.mem_map.2 ⟨y, List.mem_of_mem_take hy, rfl⟩)
      have hkk : (fitL wide (l.take k)).length ≤ k := by unfold fitL; rw [List.length_map]; exact List.length_take_le _ _
      have hx1 := HS.out (fitG wide l[k]) (List.mem_map.2 ⟨_, List.getElem_mem hkl, rfl⟩)
      obtain ⟨x, hx⟩ : ∃ x, l[k] = x := ⟨_, rfl⟩
      rw [hx] at hc hT hx1
      obtain ⟨c0, c1, c2, c3, c4⟩ := hc
      obtain ⟨s, hs⟩ : ∃ s, wid (fitL wide (l.take k)) = s := ⟨_, rfl⟩
      rw [hs] at hT hsm ⊢
      have s1 : 0 ≤ s := hsm.1
      have s2 : s ≤ 200 * 140737488355328 := by omega
      obtain ⟨y, hy⟩ : ∃ y, fitG wide x = y := ⟨_, rfl⟩
      have hw1 := below_box wr (boxG x)
      have HFT := Lib.hid (fitting_pro wide gb x (wr.alloc (boxG x)) ((hw1.cell (p := ⟨gb, 0, none⟩) (Nat.lt_of_lt_of_le (cellInL HCW.out) HB.out.size)).trans ((HB.out.cell (p := ⟨gb, 0, none⟩) (cellInL HCW.out)).trans HCW.out)))
      rw [hy] at hT hx1 HFT
      have x1 := hx1.1
      have x2 := hx1.2
      have k1 : (k : Int) < n := by omega
      have HLT := Lib.hid hlt
      have HB1 := Lib.hid (HB.out.trans (hw1.mono HB.out.size))
      unfold boxG glV at HFT
      unfold boxG at HB1
      clear hx hs hlt hsm hx1 hkk hy hw1
      go_wp2_with fail
      refine HFT.out.mono ?_
      rintro e w2 ⟨rfl, hb⟩
      have HB2 := Lib.hid (HB1.out.trans (hb.mono HB1.out.size))
      unfold glV
      clear hb
      go_wp2_with fail
      rename_i K hK
      refine hK _ _ ?_
      clear hK K
      go_wp2_with fail
      go_roundw
      case measure => have := HLT.out; simp [intOf]; omega
      case rel => exact ⟨k + 1, by go_num, HLT.out, by rw [hT.out], HB2⟩
    · obtain rfl : k = n := by omega
      have hz1 : ¬ (k : Int) < k := by omega
      clear hlt
      go_wp2_with fail
      go_ret
      exact ⟨by rw [show l.take k = l by rw [← HN.out, List.take_length]]; rfl, HB.out⟩
set_option maxRecDepth 100000 in
theorem endUsed_pro {B g : Nat} {wide : Int} {K : Nat → Prop} {s : Fs} (w : World) (h : Fl true B g wide K s w) (hl : (s.out.length + 1) * 24 ≤ 140737488355328) (hn62 : s.line.length ≤ 100000) :
    Calls Tryz.prog 119 #[.pointer (some ⟨g, 0, none⟩)] w (FlPost true B g wide K (endU s) (.tuple #[]) w) := by
  have HE := Lib.hid (end_pro w h hl)
  have HF := Lib.hid h
  obtain ⟨vo, vl, vw, vs, hF⟩ := h
  obtain ⟨pl, cl, rfl⟩ := lenL hF.line
  obtain ⟨q0, q1, q2, q3, q4⟩ := bx_cellsP hF.blk
  obtain ⟨n, hn⟩ : ∃ n, s.line.length = n := ⟨_, rfl⟩
  rw [hn] at hn62 q2
  by_cases h0 : s.line = []
  · have h1 : n = 0 := by rw [← hn, h0]; rfl
    subst h1
    have HU := Lib.hid (show endU s = s by unfold endU; rw [if_pos h0])
    clear hF hn hl h0
    go_enter Tryz.func119, Tryz.ntmps119
    go_wp2_with fail
    go_end0
    exact ⟨rfl, by rw [HU.out]; exact HF.out, Kp.refl _ _⟩
  · have h1 : 0 < n := by rw [← hn]; exact List.length_pos_iff.2 h0
    have h2 : (0 : Int) < n := by omega
    have HU := Lib.hid (show endU s = endS s by unfold endU; rw [if_neg h0])
    clear hF hn hl h0
    go_enter Tryz.func119, Tryz.ntmps119
    go_wp2_with fail
    refine HE.out.mono ?_
    rintro e w1 ⟨rfl, hf, hk⟩
    have HF1 := Lib.hid hf
    have HK1 := Lib.hid hk
    clear hf hk
    go_wp2_with fail
    go_end0
    exact ⟨rfl, by rw [HU.out]; exact HF1.out, HK1.out⟩
end Go.Proofs.YtjohhahfpgfjdaaGreatDoor.Tb
end
section
namespace Go.Proofs.YtjohhahfpgfjdaaGreatDoor.Tb
open Go.RowKit Go.Maps
set_option linter.unusedVariables false
set_option linter.unusedSimpArgs false
/-- A new row of one glyph. -/
theorem one_new (w : World) (x : Gl) {P : Nat → Prop} (hp : P w.heap.size) : RdG P (w.alloc (boxG x)) (.slice (some ⟨w.heap.size, 0, none⟩) 1 1) [x] := by
  refine ⟨_, 1, rfl, Nat.le_refl _, by unfold maxLen; omega, fun j hj => ?_⟩
  obtain rfl : j = 0 := by simp at hj; omega
  obtain ⟨d0, d1, d2, d3, d4⟩ := box_cells w x
  exact ⟨_, _, rfl, hp, d0, d1, d2, d3, d4⟩
section
variable {d : Bool} {B g : Nat} {wide u : Int} {K K' : Nat → Prop} {s : Fs} {vo vl vw : Value} {vs : List Value} {W W' : World}
/-- The store of a blank that waits, in a new row. -/
theorem FlAt.waits (h : FlAt d B g wide K s u vo vl vw vs W) (x : Gl) {i : Nat} (hg : ((W.alloc (boxG x)).setCell ⟨g, i, none⟩ (.slice (some ⟨W.heap.size, 0, none⟩) 1 1)).heap[g]? = some (bx d wide vo vl u (.slice (some ⟨W.heap.size, 0, none⟩) 1 1))) :
    FlAt d B g wide K ⟨s.out, s.line, [x]⟩ u vo vl (.slice (some ⟨W.heap.size, 0, none⟩) 1 1) vs ((W.alloc (boxG x)).setCell ⟨g, i, none⟩ (.slice (some ⟨W.heap.size, 0, none⟩) 1 1)) := by
  have h1 := h.below (below_box W (boxG x))
  have n := h.ng
  have hT : Told B g vo vl W.heap.size := ⟨by have := h.base; omega, by omega, fun e => by have := (own_base h.line e).2; omega, fun e => by have := (own_base h.out.row e).2; omega⟩
  refine h1.rebox (by simp [World.setCell]) hg (fun c hc => Below.heap_setCell _ _ _ _ hc) ((one_new W x hT).keep fun a ha _ => World.cell?_of_block (Below.heap_setCell _ _ _ _ ha.2.1))
/-- Nothing waits. -/
theorem FlAt.unwait (h : FlAt d B g wide K s u vo vl vw vs W) {i : Nat} (hg : (W.setCell ⟨g, i, none⟩ (.slice none 0 0)).heap[g]? = some (bx d wide vo vl u (.slice none 0 0))) :
    FlAt d B g wide K ⟨s.out, s.line, []⟩ u vo vl (.slice none 0 0) vs (W.setCell ⟨g, i, none⟩ (.slice none 0 0)) :=
  h.rebox (by simp [World.setCell]) hg (fun c hc => Below.heap_setCell _ _ _ _ hc) (RdG.nil _ 0 (by unfold maxLen; omega) _)
end
set_option maxRecDepth 100000 in
set_option maxHeartbeats 1000000 in
theorem wait_pro {B g : Nat} {wide : Int} {K : Nat → Prop} {s : Fs} (x : Gl) (w : World) (h : Fl true B g wide K s w) (hn62 : s.line.length ≤ 100000) :
    Calls Tryz.prog 144 #[.pointer (some ⟨g, 0, none⟩), glV x] w (FlPost true B g wide K (waitS s x) (.tuple #[]) w) := by
  have hA := below_box w (boxG x)
  obtain ⟨vo, vl, vw, vs, hF⟩ := h
  have hF1 := hF.below hA
  have hKl := fun c hc => (hF.apart c hc).1
  have HK1 := Lib.hid (Kp.of hA hKl)
  obtain ⟨pl, cl, rfl⟩ := lenL hF.line
  obtain ⟨pw, cw, rfl, _⟩ := hF.wait.form
  obtain ⟨b, hb⟩ : ∃ b, w.heap.size = b := ⟨_, rfl⟩
  have hX := heap_alloc_new w (boxG x)
  obtain ⟨W1, hW1⟩ : ∃ W1, w.alloc (boxG x) = W1 := ⟨_, rfl⟩
  rw [hW1] at hF1 HK1 hX
  rw [hb] at hX
  obtain ⟨q0, q1, q2, q3, q4⟩ := bx_cellsP hF1.blk
  unfold boxG at hX
  obtain ⟨d0, d1, d2, d3, d4⟩ : W1.cell? ⟨b, 0, none⟩ = some (.string x.t) ∧ W1.cell? ⟨b, 1, none⟩ = some (.int .i64 x.wd) ∧ W1.cell? ⟨b, 2, none⟩ = some (.int .i64 x.at_) ∧ W1.cell? ⟨b, 3, none⟩ = some (.int .i64 x.co) ∧ W1.cell? ⟨b, 4, none⟩ = some (.int .i64 x.lk) := by
    refine ⟨?_, ?_, ?_, ?_, ?_⟩ <;> rw [cell_of_row _ _ _ _ _ _ hX] <;> rfl
  have HF1 := Lib.hid hF1
  have HKL := Lib.hid (fun c (hc : K c) => (hF1.apart c hc).1)
  have HNW := Lib.hid hF1.notKg
  obtain ⟨n, hn⟩ : ∃ n, s.line.length = n := ⟨_, rfl⟩
  obtain ⟨m, hm⟩ : ∃ m, s.wait.length = m := ⟨_, rfl⟩
  rw [hn] at hn62 q2
  rw [hm] at q4
  have HBL := Lib.hid (blank_pro x W1)
  unfold boxG at hW1
  unfold glV
  by_cases h0 : s.line = []
  · have h1 : n = 0 := by rw [← hn, h0]; rfl
    subst h1
    have HU := Lib.hid (show waitS s x = s by unfold waitS; rw [if_neg (fun h => h.1 h0)])
    clear hF hn hm h0 hA hKl hX hF1 hb
    go_enter Tryz.func144, Tryz.ntmps144
    go_wp2_with fail
    go_end0
    exact ⟨rfl, by rw [HU.out]; exact ⟨_, _, _, _, HF1.out⟩, HK1.out⟩
  · have h1 : 0 < n := by rw [← hn]; exact List.length_pos_iff.2 h0
    have h2 : (0 : Int) < n := by omega
    by_cases h3 : s.wait = []
    · have h4 : m = 0 := by rw [← hm, h3]; rfl
      subst h4
      have HU := Lib.hid (show waitS s x = ⟨s.out, s.line, [blank x]⟩ by unfold waitS; rw [if_pos ⟨h0, h3⟩])
      clear hF hn hm h0 h3 hA hKl hX hF1
      go_enter Tryz.func144, Tryz.ntmps144
      go_wp2_with fail
      try simp only [hb]
      go_wp2_with fail
      unfold glV at HBL
      refine HBL.out.mono ?_
      rintro e w2 ⟨rfl, hb2⟩
      have hF2 := HF1.out.below hb2
      have HK2 := Lib.hid (HK1.out.trans (Kp.of hb2 HKL.out))
      have hB3 := below_box w2 (boxG (blank x))
      have hF3 := hF2.below hB3
      have f4 := bx_frozen hF3.blk 4
      obtain ⟨r0, r1, r2, r3, r4⟩ := bx_cellsP hF3.blk
      have hg4 : ((w2.alloc (boxG (blank x))).setCell ⟨g, 4, none⟩ (.slice (some ⟨w2.heap.size, 0, none⟩) 1 1)).heap[g]? = some (bx true wide vo _ _ (.slice (some ⟨w2.heap.size, 0, none⟩) 1 1)) := heap_setCell_same _ g 4 _ _ _ hF3.blk
      have HF4 := Lib.hid (hF2.waits (blank x) hg4)
      have HK4 := Lib.hid ((HK2.out.trans (Kp.of hB3 (fun c hc => (hF2.apart c hc).1))).set 4 HNW.out (.slice (some ⟨w2.heap.size, 0, none⟩) 1 1))
      unfold boxG at f4 r0 r1 r2 r3 r4 HF4 HK4
      clear hb2 hF2 hB3 hF3 hg4 q0 q1 q2 q3 q4
      unfold glV
      go_wp2_with fail
      go_end0
      exact ⟨rfl, by rw [HU.out]; exact ⟨_, _, _, _, HF4.out⟩, HK4.out⟩
    · have h4 : 0 < m := by rw [← hm]; exact List.length_pos_iff.2 h3
      have h5 : ((m : Int) == 0) = false := by simp; omega
      have HU := Lib.hid (show waitS s x = s by unfold waitS; rw [if_neg (fun h => h3 h.2)])
      clear hF hn hm h0 h3 hA hKl hX hF1 hb
      go_enter Tryz.func144, Tryz.ntmps144
      go_wp2_with fail
      go_end0
      exact ⟨rfl, by rw [HU.out]; exact ⟨_, _, _, _, HF1.out⟩, HK1.out⟩
def intAt (w : World) (a : Addr) : Int := match w.cell? a with | some v => intOf v | none => 0
def repS (s : Fs) (k : Nat) (x : Gl) : Fs := ⟨s.out, s.line ++ List.replicate k x, []⟩
theorem repS_wid (s : Fs) (k : Nat) (x : Gl) : wid (repS s k x).line = wid s.line + k * x.wd := by simp only [repS]; rw [wid_app, wid_rep]
theorem repS_put (s : Fs) (k : Nat) (x : Gl) : putS (repS s k x) x = repS s (k + 1) x := by simp [putS, repS, List.replicate_succ']
set_option maxRecDepth 100000 in
set_option maxHeartbeats 1000000 in
theorem goOn_pro {B g : Nat} {wide : Int} {K : Nat → Prop} {s : Fs} (x : Gl) (stop : Int) (w : World) (h : Fl true B g wide K s w) (hl : s.line.length ≤ 1000) (h0 : 0 ≤ wid s.line) (h1 : wid s.line ≤ stop) (h2 : stop ≤ 1000) :
    Calls Tryz.prog 145 #[.pointer (some ⟨g, 0, none⟩), glV x, .int .i64 stop] w (FlPost true B g wide K (repS s (stop - wid s.line).toNat (blank x)) (.tuple #[]) w) := by
  have hA := below_box w (boxG x)
  obtain ⟨vo, vl, vw, vs, hF⟩ := h
  have hF1 := hF.more (boxG x)
  have hKl := fun c hc => (hF.apart c hc).1
  have HK1 := Lib.hid (Kp.of hA hKl)
  obtain ⟨b, hb⟩ : ∃ b, w.heap.size = b := ⟨_, rfl⟩
  have hX := heap_alloc_new w (boxG x)
  obtain ⟨W1, hW1⟩ : ∃ W1, w.alloc (boxG x) = W1 := ⟨_, rfl⟩
  rw [hW1] at hF1 HK1 hX
  rw [hb] at hX hF1
  obtain ⟨q0, q1, q2, q3, q4⟩ := bx_cellsP hF1.blk
  have f4 := bx_frozen hF1.blk 4
  have hg4 := heap_setCell_same W1 g 4 _ _ (.slice none 0 0) hF1.blk
  have HF4 := Lib.hid (show Fl true B g wide (fun c => K c ∨ c = b) (repS s 0 (blank x)) (W1.setCell ⟨g, 4, none⟩ (.slice none 0 0)) from ⟨_, _, _, _, by
    have := hF1.unwait (i := 4) hg4
    simp only [repS, List.replicate_zero, List.append_nil]
    exact this⟩)
  have hgb : b ≠ g := by have := hF.ng.2.2; omega
  have hX4 : (W1.setCell ⟨g, 4, none⟩ (.slice none 0 0)).heap[b]? = some (boxG x) := (Below.heap_setCell _ _ _ _ hgb).trans hX
  have HK4 := Lib.hid (HK1.out.set 4 hF.notKg (.slice none 0 0))
  obtain ⟨W2, hW2⟩ : ∃ W2, W1.setCell ⟨g, 4, none⟩ (.slice none 0 0) = W2 := ⟨_, rfl⟩
  rw [hW2] at HF4 hX4 HK4
  have HX := Lib.hid hX4
  obtain ⟨u, hu⟩ : ∃ u, wid s.line = u := ⟨_, rfl⟩
  have HU := Lib.hid hu
  rw [hu] at h0 h1 ⊢
  unfold boxG at hW1
  unfold glV
  clear hA hF hF1 hKl hX hg4 hX4 hgb hu
  go_enter Tryz.func145, Tryz.ntmps145
  go_wp2_with fail
  go_loopw [9] (fun _ wr => ∃ k : Nat, u + k ≤ stop ∧ Hid (Fl true B g wide (fun c => K c ∨ c = b) (repS s k (blank x)) wr) ∧ Hid (Kp (fun c => K c ∨ c = b) W2 wr)) (fun _ wr => (stop - intAt wr ⟨g, 3, none⟩).toNat)
  case atStart => exact ⟨0, by omega, HF4, Lib.hid (Kp.refl _ _)⟩
  case round =>
    obtain ⟨k, hk, HF, HK⟩ := hrel
    have hF := HF.out
    obtain ⟨vo', vl', vw', vs', hF⟩ := hF
    obtain ⟨q0, q1, q2, q3, q4⟩ := bx_cellsP hF.blk
    rw [repS_wid, HU.out, show (blank x).wd = 1 from rfl, Int.mul_one] at q3
    have hXr := (HK.out.block b (.inr rfl)).trans HX.out
    unfold boxG at hXr
    obtain ⟨d0, d1, d2, d3, d4⟩ : wr.cell? ⟨b, 0, none⟩ = some (.string x.t) ∧ wr.cell? ⟨b, 1, none⟩ = some (.int .i64 x.wd) ∧ wr.cell? ⟨b, 2, none⟩ = some (.int .i64 x.at_) ∧ wr.cell? ⟨b, 3, none⟩ = some (.int .i64 x.co) ∧ wr.cell? ⟨b, 4, none⟩ = some (.int .i64 x.lk) := by
      refine ⟨?_, ?_, ?_, ?_, ?_⟩ <;> rw [cell_of_row _ _ _ _ _ _ hXr] <;> rfl
    have HM := Lib.hid (show intAt wr ⟨g, 3, none⟩ = u + k by unfold intAt; rw [q3]; rfl)
    by_cases hlt : u + k < stop
    · have HLT := Lib.hid hlt
      have HB := Lib.hid (blank_pro x wr)
      unfold glV at HB
      have HKL := Lib.hid (fun c (hc : K c ∨ c = b) => (hF.apart c hc).1)
      clear hF hXr
      go_wp2_with fail
      refine HB.out.mono ?_
      rintro e w3 ⟨rfl, hb3⟩
      have hl3 : (repS s k (blank x)).line.length ≤ 100000 := by simp [repS]; omega
      have hw3 : wid (repS s k (blank x)).line = u + k := by rw [repS_wid, HU.out, show (blank x).wd = 1 from rfl, Int.mul_one]
      have HP := Lib.hid (put_pro (blank x) w3 (HF.out.below hb3) hl3 (by rw [hw3]; omega) (by rw [hw3]; omega) (by simp [blank]))
      have HK3 := Lib.hid (HK.out.trans (Kp.of hb3 HKL.out))
      clear hb3 hl3 hw3 q0 q1 q2 q3 q4 d0 d1 d2 d3 d4
      go_wp2_with fail
      refine HP.out.mono ?_
      rintro e w4 ⟨rfl, hf4, hk4⟩
      rw [repS_put] at hf4
      have HF4 := Lib.hid hf4
      have HK4 := Lib.hid (HK3.out.trans hk4)
      have HM4 := Lib.hid (show intAt w4 ⟨g, 3, none⟩ = u + (k + 1 : Nat) by
        obtain ⟨_, _, _, _, h5⟩ := hf4
        obtain ⟨_, _, _, q3, _⟩ := bx_cellsP h5.blk
        rw [repS_wid, HU.out, show (blank x).wd = 1 from rfl, Int.mul_one] at q3
        unfold intAt; rw [q3]; rfl)
      clear hf4 hk4
      go_wp2_with fail
      go_roundw
      case measure => have := HLT.out; have := HM.out; have := HM4.out; omega
      case rel => exact ⟨k + 1, by have := HLT.out; omega, HF4, HK4⟩
    · have HE := Lib.hid (show (stop - u).toNat = k by omega)
      clear hF hXr
      go_wp2_with fail
      go_end0
      exact ⟨rfl, by rw [HE.out]; exact HF.out.less fun c hc => .inl hc, HK4.out.trans (HK.out.mono fun c hc => .inl hc)⟩
end Go.Proofs.YtjohhahfpgfjdaaGreatDoor.Tb
end
