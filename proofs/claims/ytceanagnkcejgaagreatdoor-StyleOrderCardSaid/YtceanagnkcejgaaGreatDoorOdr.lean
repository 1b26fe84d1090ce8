/- A sheet by its names: what a style comes to hangs on no order. Nothing of the program is in it. -/
import Derived.Test.YtceanagnkcejgaaGreatDoorBt
namespace Go.Proofs.YtceanagnkcejgaaGreatDoor
open Go Go.RowKit
set_option linter.unusedVariables false

/-- The style of a name. -/
def lk (l : List Sty) (x : List UInt8) : Option Sty := (fnd l x).map (gets l)
def parN (l : List Sty) (s : Sty) : Option Sty := if s.pr = [] then none else lk l s.pr
def pathN (l : List Sty) : Nat → Sty → Option (List Sty)
  | 0, _ => none
  | f + 1, s => match parN l s with
    | none => some [s]
    | some t => (pathN l f t).map (s :: ·)
def wholeN (p : List Sty) : Chg := p.foldr (fun s c => thenC c s.ch) none0
theorem lk_mem {l : List Sty} {x : List UInt8} {s : Sty} (h : lk l x = some s) : s ∈ l ∧ s.nm = x := by
  obtain ⟨j, hj, rfl⟩ := Option.map_eq_some_iff.1 h
  obtain ⟨h1, h2, _⟩ := fnd_some hj
  rw [gets_eq h1]
  exact ⟨List.getElem_mem h1, h2⟩
theorem lk_none {l : List Sty} {x : List UInt8} : lk l x = none ↔ ∀ s ∈ l, s.nm ≠ x := by
  unfold lk
  rw [Option.map_eq_none_iff, fnd_none]
def Dist (l : List Sty) : Prop := ∀ s ∈ l, ∀ t ∈ l, s.nm = t.nm → s = t
theorem lk_of {l : List Sty} (hd : Dist l) {s : Sty} (h : s ∈ l) : lk l s.nm = some s := by
  cases e : lk l s.nm with
  | none => exact absurd rfl (lk_none.1 e s h)
  | some t =>
    obtain ⟨h1, h2⟩ := lk_mem e
    rw [hd t h1 s h h2]
theorem path_name (l : List Sty) : ∀ (f i : Nat), (path l f i).map (List.map (gets l)) = pathN l f (gets l i)
  | 0, i => rfl
  | f + 1, i => by
    have e : parN l (gets l i) = (upS l i).map (gets l) := by
      unfold parN upS lk
      split <;> rfl
    unfold path pathN
    rw [e]
    cases upS l i with
    | none => rfl
    | some j =>
      simp only [Option.map_some]
      rw [← path_name l f j]
      cases path l f j <;> rfl
theorem whole_name (l : List Sty) (i : Nat) : wholeI l i = wholeN ((pathN l 8 (gets l i)).getD []) := by
  unfold wholeI
  rw [← path_name]
  cases path l 8 i with
  | none => rfl
  | some p => simp [wholeP, wholeN, List.foldr_map]

/-- A sheet that is taken, by its names. -/
structure GoodN (l : List Sty) : Prop where
  few : l.length ≤ 64
  name : ∀ s ∈ l, nameB s.nm = true
  own : ∀ s ∈ l, ownE s.ch = 0
  par : ∀ s ∈ l, s.pr = [] ∨ lk l s.pr ≠ none
  deep : ∀ s ∈ l, pathN l 8 s ≠ none
  uniq : ∀ i j, i < l.length → j < l.length → (gets l i).nm = (gets l j).nm → i = j
theorem GoodN.dist {l : List Sty} (h : GoodN l) : Dist l := by
  intro s hs t ht e
  obtain ⟨i, hi, rfl⟩ := List.getElem_of_mem hs
  obtain ⟨j, hj, rfl⟩ := List.getElem_of_mem ht
  have := h.uniq i j hi hj (by rw [gets_eq hi, gets_eq hj]; exact e)
  subst this; rfl
theorem good_name {l : List Sty} : Good l ↔ GoodN l := by
  constructor
  · intro h
    have c1 : ∀ i (hi : i < l.length), nameB (l[i]).nm = true ∧ ownE (l[i]).ch = 0 ∧ ∀ j (hj : j < i), (l[j]'(by omega)).nm ≠ (l[i]).nm := by
      intro i hi
      have := h.own i hi
      unfold ck1 at this
      rw [gets_eq hi] at this
      split at this
      · cases this
      · split at this
        · cases this
        · rename_i h1 h2
          refine ⟨by simpa using h1, this, fun j hj e => ?_⟩
          obtain ⟨k, hk, hkj⟩ := fnd_here (l := l) (i := j) (by omega) e
          rw [hk] at h2
          simp at h2
          omega
    refine ⟨h.few, ?_, ?_, ?_, ?_, ?_⟩
    · intro s hs; obtain ⟨i, hi, rfl⟩ := List.getElem_of_mem hs; exact (c1 i hi).1
    · intro s hs; obtain ⟨i, hi, rfl⟩ := List.getElem_of_mem hs; exact (c1 i hi).2.1
    · intro s hs
      obtain ⟨i, hi, rfl⟩ := List.getElem_of_mem hs
      by_cases e : (l[i]).pr = []
      · exact .inl e
      · right
        obtain ⟨j, hj⟩ := h.par hi (by rw [gets_eq hi]; exact e)
        rw [gets_eq hi] at hj
        unfold lk; rw [hj]; simp
    · intro s hs
      obtain ⟨i, hi, rfl⟩ := List.getElem_of_mem hs
      obtain ⟨p, hp⟩ := h.path hi
      rw [← gets_eq hi, ← path_name, hp]; simp
    · intro i j hi hj e
      rw [gets_eq hi, gets_eq hj] at e
      rcases Nat.lt_trichotomy i j with h1 | h1 | h1
      · exact absurd e ((c1 j hj).2.2 i h1)
      · exact h1
      · exact absurd e.symm ((c1 i hi).2.2 j h1)
  · intro h
    refine ⟨h.few, ?_, ?_⟩
    · intro i hi
      unfold ck1
      have hm := List.getElem_mem hi
      rw [gets_eq hi, if_neg (by simp [h.name _ hm])]
      obtain ⟨k, hk, hki⟩ := fnd_here hi rfl
      obtain ⟨h1, h2, _⟩ := fnd_some hk
      have := h.uniq k i h1 hi (by rw [gets_eq h1, gets_eq hi]; exact h2)
      subst this
      rw [hk, if_neg (by simp)]
      exact h.own _ hm
    · intro i hi
      unfold ck2
      have hm := List.getElem_mem hi
      rw [gets_eq hi, if_neg, if_neg]
      · intro e
        have := h.deep _ hm
        rw [← gets_eq hi, ← path_name, e] at this
        exact this rfl
      · rintro ⟨a, b⟩
        rcases h.par _ hm with h1 | h1
        · exact a h1
        · exact h1 (by unfold lk; rw [b]; rfl)
/-- What Whole tells of a sheet that is taken. -/
theorem whole_of {l : List Sty} (h : Good l) {s : Sty} (hs : s ∈ l) : wholeM l s.nm = (wholeN ((pathN l 8 s).getD []), 0) := by
  have hz := checkM_good.2 h
  unfold wholeM
  rw [if_neg (by simp [hz])]
  have hl := lk_of (good_name.1 h).dist hs
  unfold lk at hl
  obtain ⟨j, hj, he⟩ := Option.map_eq_some_iff.1 hl
  rw [hj]
  simp only
  rw [whole_name, he]
theorem path_same {l t : List Sty} {A : Sty → Prop} (hp : ∀ s, A s → parN l s = parN t s) (hA : ∀ s u, A s → parN l s = some u → A u) : ∀ (f : Nat) (s : Sty), A s → pathN l f s = pathN t f s
  | 0, s, _ => rfl
  | f + 1, s, hs => by
    unfold pathN
    rw [← hp s hs]
    cases e : parN l s with
    | none => rfl
    | some u => simp only; rw [path_same hp hA f u (hA s u hs e)]
/-- Two sheets of the same styles. -/
theorem lk_perm {l t : List Sty} (hl : Dist l) (hm : ∀ s, s ∈ l ↔ s ∈ t) (x : List UInt8) : lk l x = lk t x := by
  have ht : Dist t := fun a ha b hb => hl a ((hm a).2 ha) b ((hm b).2 hb)
  cases e : lk l x with
  | none =>
    symm
    rw [lk_none]
    intro s hs
    exact lk_none.1 e s ((hm s).2 hs)
  | some s =>
    obtain ⟨h1, rfl⟩ := lk_mem e
    exact (lk_of ht ((hm s).1 h1)).symm
theorem perm_good {l t : List Sty} (h : Good l) (hp : l.Perm t) : Good t ∧ ∀ s ∈ l, wholeM t s.nm = wholeM l s.nm := by
  have g := good_name.1 h
  have hm : ∀ s, s ∈ l ↔ s ∈ t := fun s => hp.mem_iff
  have hlk := lk_perm g.dist hm
  have hpar : ∀ s, parN l s = parN t s := fun s => by unfold parN; rw [hlk]
  have hpath := path_same (A := fun _ => True) (fun s _ => hpar s) (fun _ _ _ _ => trivial)
  have nd : (l.map Sty.nm).Nodup := by
    refine List.pairwise_iff_getElem.2 ?_
    intro i j hi hj hij e
    simp only [List.length_map] at hi hj
    simp only [List.getElem_map] at e
    have := g.uniq i j hi hj (by rw [gets_eq hi, gets_eq hj]; exact e)
    omega
  have gt : Good t := by
    refine good_name.2 ⟨?_, ?_, ?_, ?_, ?_, ?_⟩
    · rw [← hp.length_eq]; exact g.few
    · intro s hs; exact g.name s ((hm s).2 hs)
    · intro s hs; exact g.own s ((hm s).2 hs)
    · intro s hs; rw [← hlk]; exact g.par s ((hm s).2 hs)
    · intro s hs; rw [← hpath 8 s trivial]; exact g.deep s ((hm s).2 hs)
    · intro i j hi hj e
      have nt : (t.map Sty.nm).Nodup := (hp.map Sty.nm).nodup_iff.1 nd
      rw [gets_eq hi, gets_eq hj] at e
      have h1 : i < (t.map Sty.nm).length := by simpa using hi
      have h2 : j < (t.map Sty.nm).length := by simpa using hj
      exact (List.getElem_inj (h₀ := h1) (h₁ := h2) nt).1 (by simpa using e)
  refine ⟨gt, fun s hs => ?_⟩
  rw [whole_of h hs, whole_of gt ((hm s).1 hs), hpath 8 s trivial]
/-- A sheet without a style that nobody names. -/
theorem less_good {l : List Sty} (h : Good l) {k : Nat} (hk : k < l.length) (hn : ∀ s ∈ l, s.pr ≠ (gets l k).nm) :
    Good (l.eraseIdx k) ∧ ∀ i, i < l.length → i ≠ k → wholeM (l.eraseIdx k) (gets l i).nm = wholeM l (gets l i).nm := by
  have g := good_name.1 h
  have hsub : ∀ s, s ∈ l.eraseIdx k → s ∈ l := fun s hs => List.mem_of_mem_eraseIdx hs
  have hne : ∀ i, i < l.length → i ≠ k → gets l i ∈ l.eraseIdx k := by
    intro i hi e
    rw [gets_eq hi]
    exact List.mem_eraseIdx_iff_getElem.2 ⟨i, hi, e, rfl⟩
  have hd : Dist (l.eraseIdx k) := fun a ha b hb => g.dist a (hsub a ha) b (hsub b hb)
  have hlk : ∀ x, x ≠ (gets l k).nm → lk (l.eraseIdx k) x = lk l x := by
    intro x hx
    cases e : lk l x with
    | none => rw [lk_none]; intro s hs; exact lk_none.1 e s (hsub s hs)
    | some s =>
      obtain ⟨h1, rfl⟩ := lk_mem e
      refine lk_of hd ?_
      obtain ⟨i, hi, rfl⟩ := List.getElem_of_mem h1
      rw [← gets_eq hi]
      refine hne i hi ?_
      rintro rfl
      exact hx (by rw [gets_eq hi])
  have hpar : ∀ s, s ∈ l → parN (l.eraseIdx k) s = parN l s := by
    intro s hs
    unfold parN
    rw [hlk s.pr (hn s hs)]
  have hA : ∀ s u, s ∈ l → parN (l.eraseIdx k) s = some u → u ∈ l := by
    intro s u hs e
    unfold parN at e
    split at e
    · cases e
    · exact hsub u (lk_mem e).1
  have hpath := path_same (A := fun s => s ∈ l) hpar hA
  have nd : (l.map Sty.nm).Nodup := by
    refine List.pairwise_iff_getElem.2 ?_
    intro i j hi hj hij e
    simp only [List.length_map] at hi hj
    simp only [List.getElem_map] at e
    have := g.uniq i j hi hj (by rw [gets_eq hi, gets_eq hj]; exact e)
    omega
  have nt : ((l.eraseIdx k).map Sty.nm).Nodup := ((List.eraseIdx_sublist l k).map Sty.nm).nodup nd
  have gt : Good (l.eraseIdx k) := by
    refine good_name.2 ⟨?_, ?_, ?_, ?_, ?_, ?_⟩
    · have := g.few; have := List.length_eraseIdx_le l k; omega
    · intro s hs; exact g.name s (hsub s hs)
    · intro s hs; exact g.own s (hsub s hs)
    · intro s hs; rw [hlk s.pr (hn s (hsub s hs))]; exact g.par s (hsub s hs)
    · intro s hs; rw [hpath 8 s (hsub s hs)]; exact g.deep s (hsub s hs)
    · intro i j hi hj e
      rw [gets_eq hi, gets_eq hj] at e
      have h1 : i < ((l.eraseIdx k).map Sty.nm).length := by simpa using hi
      have h2 : j < ((l.eraseIdx k).map Sty.nm).length := by simpa using hj
      exact (List.getElem_inj (h₀ := h1) (h₁ := h2) nt).1 (by simpa using e)
  refine ⟨gt, fun i hi e => ?_⟩
  have hm := hne i hi e
  have hl : gets l i ∈ l := hsub _ hm
  rw [whole_of h hl, whole_of gt hm, hpath 8 _ hl]

/-- Nestings: what comes of names one behind the other. -/
def runN (l : List Sty) : List (List UInt8) → Lk → Option Lk
  | [], k => some k
  | x :: r, k => match fnd l x with
    | none => none
    | some j => runN l r (applyL k (wholeI l j))
theorem nest_run (l : List Sty) : ∀ (xs : List (List UInt8)) (i : Nat) (k : Lk), match runN l xs k with
    | some k' => nestL l xs i k = (k', 0, 0)
    | none => (nestL l xs i k).2.2 = 66
  | [], i, k => rfl
  | x :: r, i, k => by
    unfold runN nestL
    cases e : fnd l x with
    | none => rfl
    | some j => exact nest_run l r (i + 1) _
theorem run_app (l : List Sty) : ∀ (xs ys : List (List UInt8)) (k : Lk), runN l (xs ++ ys) k = (runN l xs k).bind (runN l ys)
  | [], ys, k => rfl
  | x :: r, ys, k => by
    simp only [List.cons_append, runN]
    cases fnd l x with
    | none => rfl
    | some j => exact run_app l r ys _
def twice (xs : List (List UInt8)) : List (List UInt8) := xs.flatMap fun x => [x, x]
theorem run_twice (l : List Sty) : ∀ (xs : List (List UInt8)) (k : Lk), runN l (twice xs) k = runN l xs k
  | [], k => rfl
  | x :: r, k => by
    have e : twice (x :: r) = x :: x :: twice r := rfl
    rw [e]
    simp only [runN]
    cases h : fnd l x with
    | none => rfl
    | some j =>
      simp only
      rw [apply_twice, run_twice l r]
end Go.Proofs.YtceanagnkcejgaaGreatDoor
