/- Plain model of layer 6: changes, looks, sheets, what a style comes to. Nothing of the program is in it. -/
import Derived.Test.YtceanagnkcejgaaGreatDoorMk
import Derived.RowKit
import Derived.Laws.Entries
namespace Go.Proofs.YtceanagnkcejgaaGreatDoor
open Go Go.RowKit
set_option linter.unusedVariables false

structure Chg where
  on : Int
  off : Int
  col : Int
structure Lk where
  att : Int
  col : Int
structure Sty where
  nm : List UInt8
  pr : List UInt8
  ch : Chg
theorem Chg.eq {a b : Chg} (h1 : a.on = b.on) (h2 : a.off = b.off) (h3 : a.col = b.col) : a = b := by cases a; cases b; simp_all
theorem Lk.eq {a b : Lk} (h1 : a.att = b.att) (h2 : a.col = b.col) : a = b := by cases a; cases b; simp_all
def none0 : Chg := ⟨0, 0, -1⟩
def plain0 : Lk := ⟨0, 7⟩
def zeroC : Chg := ⟨0, 0, 0⟩
def zeroS : Sty := ⟨[], [], zeroC⟩
def zeroL : Lk := ⟨0, 0⟩
def overI (c d : Int) : Int := if d = -1 then c else d
def thenC (a b : Chg) : Chg := ⟨bits .or .i64 (bits .andNot .i64 a.on b.off) b.on, bits .or .i64 (bits .andNot .i64 a.off b.on) b.off, overI a.col b.col⟩
def applyL (l : Lk) (c : Chg) : Lk := ⟨bits .andNot .i64 (bits .or .i64 l.att c.on) c.off, overI l.col c.col⟩
def nameB (l : List UInt8) : Bool := l.all isL && !l.isEmpty && decide (l.length ≤ 12)

/-- The first style of a name. -/
def fndF (x : List UInt8) : List Sty → Nat → Option Nat
  | [], _ => none
  | s :: r, k => if s.nm = x then some k else fndF x r (k + 1)
def fnd (l : List Sty) (x : List UInt8) : Option Nat := fndF x l 0
theorem fndF_some {x : List UInt8} : ∀ {l : List Sty} {k j : Nat}, fndF x l k = some j → k ≤ j ∧ ∃ h : j - k < l.length, (l[j - k]).nm = x ∧ ∀ i (hi : i < j - k), (l[i]'(by omega)).nm ≠ x
  | [], k, j, h => by simp [fndF] at h
  | s :: r, k, j, h => by
    by_cases hs : s.nm = x
    · simp [fndF, hs] at h
      subst h
      exact ⟨Nat.le_refl _, by simp, by simpa using hs, fun i hi => by omega⟩
    · simp [fndF, hs] at h
      obtain ⟨h1, h2, h3, h4⟩ := fndF_some h
      have e : j - k = (j - (k + 1)) + 1 := by omega
      refine ⟨by omega, by simp; omega, ?_, ?_⟩
      · simp only [e, List.getElem_cons_succ]; exact h3
      · intro i hi
        cases i with
        | zero => simpa using hs
        | succ i => simpa using h4 i (by omega)
theorem fndF_none {x : List UInt8} : ∀ {l : List Sty} {k : Nat}, fndF x l k = none ↔ ∀ s ∈ l, s.nm ≠ x
  | [], k => by simp [fndF]
  | s :: r, k => by
    by_cases hs : s.nm = x
    · simp [fndF, hs]
    · simp [fndF, hs, fndF_none]
theorem fnd_some {l : List Sty} {x : List UInt8} {j : Nat} (h : fnd l x = some j) : ∃ hj : j < l.length, (l[j]).nm = x ∧ ∀ i (hi : i < j), (l[i]'(by omega)).nm ≠ x := by
  obtain ⟨_, h2, h3, h4⟩ := fndF_some h
  exact ⟨by simpa using h2, by simpa using h3, by simpa using h4⟩
theorem fnd_none {l : List Sty} {x : List UInt8} : fnd l x = none ↔ ∀ s ∈ l, s.nm ≠ x := fndF_none
theorem fnd_here {l : List Sty} {x : List UInt8} {i : Nat} (hi : i < l.length) (h : (l[i]).nm = x) : ∃ j, fnd l x = some j ∧ j ≤ i := by
  cases e : fnd l x with
  | none => exact absurd h (fnd_none.1 e _ (List.getElem_mem hi))
  | some j =>
    obtain ⟨hj, h1, h2⟩ := fnd_some e
    refine ⟨j, rfl, ?_⟩
    rcases Nat.lt_or_ge i j with h3 | h3
    · exact absurd h (h2 i h3)
    · exact h3
theorem fndF_step {x : List UInt8} {l : List Sty} {k : Nat} (hk : k < l.length) : fndF x (l.drop k) k = if (l[k]).nm = x then some k else fndF x (l.drop (k + 1)) (k + 1) := by
  rw [List.drop_eq_getElem_cons hk]; rfl
theorem fndF_end {x : List UInt8} {l : List Sty} {k : Nat} (hk : l.length ≤ k) : fndF x (l.drop k) k = none := by
  rw [List.drop_eq_nil_of_le hk]; rfl

/-- What is wrong with a style by itself, but for its name. -/
def ownE (c : Chg) : Nat :=
  if c.on < 0 ∨ c.off < 0 ∨ 127 < c.on ∨ 127 < c.off ∨ ¬ bits .and .i64 c.on c.off = 0 then 62
  else if c.col < -1 ∨ 15 < c.col then 63 else 0
/-- The first of some numbers at which something is wrong, and what. -/
def fb (f : Nat → Nat) : Nat → Nat → Option (Nat × Nat)
  | 0, _ => none
  | n + 1, k => if f k = 0 then fb f n (k + 1) else some (k, f k)
theorem fb_none {f : Nat → Nat} : ∀ {n k : Nat}, fb f n k = none ↔ ∀ i, k ≤ i → i < k + n → f i = 0
  | 0, k => by simp [fb]; omega
  | n + 1, k => by
    by_cases h : f k = 0
    · simp only [fb, h, if_true]
      rw [fb_none]
      constructor
      · intro hh i h1 h2
        by_cases e : i = k
        · subst e; exact h
        · exact hh i (by omega) (by omega)
      · intro hh i h1 h2; exact hh i (by omega) (by omega)
    · simp only [fb, h, if_false]
      constructor
      · intro hh; cases hh
      · intro hh; exact absurd (hh k (Nat.le_refl _) (by omega)) h
def gets (l : List Sty) (i : Nat) : Sty := l.getD i zeroS
theorem gets_eq {l : List Sty} {i : Nat} (h : i < l.length) : gets l i = l[i] := by simp [gets, h]
def ck1 (l : List Sty) (i : Nat) : Nat :=
  if nameB (gets l i).nm = false then 60 else if (fnd l (gets l i).nm).getD 0 < i then 61 else ownE (gets l i).ch
/-- A style's parent, if it has one that there is. -/
def upS (l : List Sty) (i : Nat) : Option Nat := if (gets l i).pr = [] then none else fnd l (gets l i).pr
/-- A style and its parents, itself ahead: at most so many. -/
def path (l : List Sty) : Nat → Nat → Option (List Nat)
  | 0, _ => none
  | f + 1, i => match upS l i with
    | none => some [i]
    | some j => (path l f j).map (i :: ·)
def ck2 (l : List Sty) (i : Nat) : Nat :=
  if ¬ (gets l i).pr = [] ∧ fnd l (gets l i).pr = none then 64 else if path l 8 i = none then 65 else 0
def checkM (l : List Sty) : Nat × Nat :=
  if 64 < l.length then (0, 2) else match fb (ck1 l) l.length 0 with
  | some p => p
  | none => match fb (ck2 l) l.length 0 with
    | some p => p
    | none => (0, 0)
def wholeP (l : List Sty) (p : List Nat) : Chg := p.foldr (fun k c => thenC c (gets l k).ch) none0
def wholeI (l : List Sty) (i : Nat) : Chg := wholeP l ((path l 8 i).getD [])
def wholeM (l : List Sty) (x : List UInt8) : Chg × Nat :=
  if (checkM l).2 ≠ 0 then (zeroC, (checkM l).2) else match fnd l x with
  | none => (zeroC, 66)
  | some i => (wholeI l i, 0)
def nestL (l : List Sty) : List (List UInt8) → Nat → Lk → Lk × Nat × Nat
  | [], _, k => (k, 0, 0)
  | x :: r, i, k => match fnd l x with
    | none => (zeroL, i, 66)
    | some j => nestL l r (i + 1) (applyL k (wholeI l j))
def nestM (l : List Sty) (xs : List (List UInt8)) : Lk × Nat × Nat :=
  if (checkM l).2 ≠ 0 then (zeroL, 0, (checkM l).2) else if 32 < xs.length then (zeroL, 0, 2) else nestL l xs 0 plain0

theorem upS_lt {l : List Sty} {i j : Nat} (h : upS l i = some j) : j < l.length := by
  unfold upS at h
  split at h
  · cases h
  · exact (fnd_some h).1
theorem path_lt {l : List Sty} : ∀ {f i : Nat} {p : List Nat}, path l f i = some p → i < l.length → ∀ k ∈ p, k < l.length
  | 0, i, p, h, hi => by simp [path] at h
  | f + 1, i, p, h, hi => by
    unfold path at h
    cases e : upS l i with
    | none => rw [e] at h; simp at h; subst h; simpa using hi
    | some j =>
      rw [e] at h
      obtain ⟨q, hq, rfl⟩ := Option.map_eq_some_iff.1 h
      intro k hk
      rcases List.mem_cons.1 hk with rfl | hk
      · exact hi
      · exact path_lt hq (upS_lt e) k hk
theorem path_len {l : List Sty} : ∀ {f i : Nat} {p : List Nat}, path l f i = some p → p.length ≤ f
  | 0, i, p, h => by simp [path] at h
  | f + 1, i, p, h => by
    unfold path at h
    cases e : upS l i with
    | none => rw [e] at h; simp at h; subst h; simp
    | some j =>
      rw [e] at h
      obtain ⟨q, hq, rfl⟩ := Option.map_eq_some_iff.1 h
      have := path_len hq
      simp; omega
/-- Of a sheet that is taken. -/
structure Good (l : List Sty) : Prop where
  few : l.length ≤ 64
  own : ∀ i, i < l.length → ck1 l i = 0
  up : ∀ i, i < l.length → ck2 l i = 0
theorem checkM_good {l : List Sty} : (checkM l).2 = 0 ↔ Good l := by
  unfold checkM
  have nz : ∀ (f : Nat → Nat) (n k : Nat) (p : Nat × Nat), fb f n k = some p → p.2 ≠ 0 := by
    intro f n
    induction n with
    | zero => intro k p h; simp [fb] at h
    | succ n ih =>
      intro k p h
      by_cases e : f k = 0
      · simp only [fb, e, if_true] at h; exact ih _ _ h
      · simp only [fb, e, if_false] at h; cases h; exact e
  by_cases h64 : 64 < l.length
  · rw [if_pos h64]
    exact ⟨fun h => by simp at h, fun h => by have := h.few; omega⟩
  · rw [if_neg h64]
    cases e1 : fb (ck1 l) l.length 0 with
    | some p =>
      simp only
      refine ⟨fun h => absurd h (nz _ _ _ _ e1), fun h => ?_⟩
      have : fb (ck1 l) l.length 0 = none := fb_none.2 (fun i _ hi => h.own i (by omega))
      rw [this] at e1; cases e1
    | none =>
      have o := fb_none.1 e1
      cases e2 : fb (ck2 l) l.length 0 with
      | some p =>
        simp only
        refine ⟨fun h => absurd h (nz _ _ _ _ e2), fun h => ?_⟩
        have : fb (ck2 l) l.length 0 = none := fb_none.2 (fun i _ hi => h.up i (by omega))
        rw [this] at e2; cases e2
      | none =>
        have u := fb_none.1 e2
        exact ⟨fun _ => ⟨by omega, fun i hi => o i (by omega) (by omega), fun i hi => u i (by omega) (by omega)⟩, fun _ => rfl⟩
theorem Good.path {l : List Sty} (h : Good l) {i : Nat} (hi : i < l.length) : ∃ p, path l 8 i = some p := by
  have := h.up i hi
  unfold ck2 at this
  split at this
  · cases this
  · split at this
    · cases this
    · rename_i h2
      cases e : Go.Proofs.YtceanagnkcejgaaGreatDoor.path l 8 i with
      | none => exact absurd e h2
      | some p => exact ⟨p, rfl⟩
theorem Good.par {l : List Sty} (h : Good l) {i : Nat} (hi : i < l.length) (hp : ¬ (gets l i).pr = []) : ∃ j, fnd l (gets l i).pr = some j := by
  have := h.up i hi
  unfold ck2 at this
  split at this
  · cases this
  · rename_i h1
    cases e : fnd l (gets l i).pr with
    | none => exact absurd ⟨hp, e⟩ h1
    | some j => exact ⟨j, rfl⟩
end Go.Proofs.YtceanagnkcejgaaGreatDoor
