/- Plain mathematics of a text's cells: nothing of the program is in it. -/
import Derived.Test.YtoeknophfcfahaaGreatDoorChsn
import Derived.Test.YtoeknophfcfahaaGreatDoorSmalln
namespace Go.Proofs.YtoeknophfcfahaaGreatDoor
open Go

/-- A cell: its place, where it ends, how wide it is. -/
abbrev Cel := Nat × Nat × Int
def celNew (c : Ch) : Cel := (c.1, c.1 + c.2.2, if wid c.2.1 = 0 then 1 else wid c.2.1)
def celStep (out : List Cel) (c : Ch) : List Cel :=
  match out.getLast? with
  | some y => if wid c.2.1 = 0 then out.dropLast ++ [(y.1, c.1 + c.2.2, y.2.2)] else out ++ [celNew c]
  | none => [celNew c]
def celsOf (l : List Ch) : List Cel := l.foldl celStep []
def cells (s : ByteArray) : List Cel := celsOf (chars s)
theorem celStep_nil (c : Ch) : celStep [] c = [celNew c] := rfl
theorem celStep_more (init : List Cel) (y : Cel) (c : Ch) (h : wid c.2.1 = 0) : celStep (init ++ [y]) c = init ++ [(y.1, c.1 + c.2.2, y.2.2)] := by
  simp [celStep, h]
theorem celStep_new (out : List Cel) (c : Ch) (h : ¬ wid c.2.1 = 0) : celStep out c = out ++ [celNew c] := by
  unfold celStep
  cases e : out.getLast? with
  | none => rw [List.getLast?_eq_none_iff] at e; subst e; rfl
  | some y => simp [h]
theorem celsOf_take {l : List Ch} {k : Nat} {c : Ch} (h : l[k]? = some c) : celsOf (l.take (k + 1)) = celStep (celsOf (l.take k)) c := by
  have hk := (List.getElem?_eq_some_iff.1 h)
  obtain ⟨hk, e⟩ := hk
  unfold celsOf
  rw [List.take_succ_eq_append_getElem hk, List.foldl_append, e]
  rfl
theorem celStep_len (out : List Cel) (c : Ch) : (celStep out c).length ≤ out.length + 1 := by
  unfold celStep
  cases e : out.getLast? with
  | none => simp
  | some y =>
    simp only
    split <;> simp
theorem celsOf_len (l : List Ch) (k : Nat) : (celsOf (l.take k)).length ≤ k := by
  induction k with
  | zero => simp [celsOf]
  | succ k ih =>
    by_cases h : k < l.length
    · rw [celsOf_take (List.getElem?_eq_getElem h)]
      exact Nat.le_trans (celStep_len _ _) (by omega)
    · rw [List.take_of_length_le (by omega)]
      rw [List.take_of_length_le (by omega)] at ih
      omega
/-- The last cell ends where the next character begins. -/
theorem celsOf_last (s : ByteArray) (k : Nat) (hk : k ≤ (chars s).length) (init : List Cel) (y : Cel) (e : celsOf ((chars s).take k) = init ++ [y]) :
    y.2.1 = (if h : k < (chars s).length then ((chars s)[k]).1 else s.size) ∧ y.1 ≤ y.2.1 ∧ y.2.1 ≤ s.size := by
  induction k generalizing init y with
  | zero => simp [celsOf] at e
  | succ k ih =>
    have hlt : k < (chars s).length := by omega
    have hc : (chars s)[k]? = some ((chars s)[k]) := List.getElem?_eq_getElem hlt
    have hend := chars_ends s k hlt
    have hw := chars_width s _ (List.mem_of_getElem? hc)
    rw [celsOf_take hc] at e
    rcases List.eq_nil_or_concat (celsOf ((chars s).take k)) with h0 | ⟨i0, y0, h0⟩
    · rw [h0, celStep_nil] at e
      obtain ⟨rfl, rfl⟩ : init = [] ∧ y = celNew ((chars s)[k]) := by
        have := congrArg List.length e
        simp at this
        subst this
        simpa using e.symm
      simp only [celNew]
      exact ⟨hend, by omega, by omega⟩
    · rw [List.concat_eq_append] at h0
      by_cases hz : wid ((chars s)[k]).2.1 = 0
      · rw [h0, celStep_more _ _ _ hz] at e
        obtain ⟨_, e2⟩ := List.append_inj' e rfl
        obtain ⟨h1, h2, h3⟩ := ih (by omega) i0 y0 h0
        rw [dif_pos hlt] at h1
        simp at e2
        subst e2
        exact ⟨hend, by simp; omega, by simp; omega⟩
      · rw [celStep_new _ _ hz] at e
        obtain ⟨_, e2⟩ := List.append_inj' e rfl
        simp [celNew] at e2
        subst e2
        exact ⟨hend, by simp, by simp; omega⟩
theorem wid_012 (r : Int) : wid r = 0 ∨ wid r = 1 ∨ wid r = 2 := by
  unfold wid
  repeat' split
  all_goals simp
theorem cel_wide (l : List Ch) : ∀ y ∈ celsOf l, y.2.2 = 1 ∨ y.2.2 = 2 := by
  have key : ∀ (l : List Ch) (out : List Cel), (∀ y ∈ out, y.2.2 = 1 ∨ y.2.2 = 2) → ∀ y ∈ l.foldl celStep out, y.2.2 = 1 ∨ y.2.2 = 2 := by
    intro l
    induction l with
    | nil => intro out h; exact h
    | cons c l ih =>
      intro out h
      apply ih
      have hn : (celNew c).2.2 = 1 ∨ (celNew c).2.2 = 2 := by
        have := wid_012 c.2.1
        simp only [celNew]
        split <;> omega
      rcases List.eq_nil_or_concat out with h0 | ⟨i0, y0, h0⟩
      · subst h0
        intro y hy
        rw [celStep_nil] at hy
        simp at hy
        subst hy; exact hn
      · rw [List.concat_eq_append] at h0
        subst h0
        intro y hy
        by_cases hz : wid c.2.1 = 0
        · rw [celStep_more _ _ _ hz] at hy
          simp only [List.mem_append, List.mem_singleton] at hy
          rcases hy with hy | rfl
          · exact h y (by simp [hy])
          · exact h y0 (by simp)
        · rw [celStep_new _ _ hz] at hy
          simp only [List.mem_append, List.mem_singleton] at hy
          rcases hy with hy | rfl
          · exact h y (by simpa using hy)
          · exact hn
  exact key l [] (by simp)
/-- How wide a list of cells is. -/
def sumW (l : List Cel) : Int := (l.map (·.2.2)).sum
theorem sumW_snoc (l : List Cel) (y : Cel) : sumW (l ++ [y]) = sumW l + y.2.2 := by simp [sumW]
theorem sumW_bd (l : List Cel) (h : ∀ y ∈ l, y.2.2 = 1 ∨ y.2.2 = 2) : 0 ≤ sumW l ∧ sumW l ≤ 2 * l.length := by
  induction l with
  | nil => simp [sumW]
  | cons a l ih =>
    have h1 := h a (by simp)
    have h2 := ih fun y hy => h y (by simp [hy])
    have e : sumW (a :: l) = a.2.2 + sumW l := by simp [sumW]
    rw [e]; simp; omega
/-- What three cells of memory hold of a cell. -/
def celV (s : ByteArray) (y : Cel) : List Value := [.string (s.extract y.1 y.2.1), .int .i64 y.1, .int .i64 y.2.2]
def celsV (s : ByteArray) (l : List Cel) : List Value := l.flatMap (celV s)
theorem celsV_len (s : ByteArray) (l : List Cel) : (celsV s l).length = l.length * 3 := by
  induction l with
  | nil => rfl
  | cons a l ih => simp [celsV, celV] at ih ⊢; omega
theorem celsV_snoc (s : ByteArray) (l : List Cel) (y : Cel) : celsV s (l ++ [y]) = celsV s l ++ celV s y := by simp [celsV]
theorem celV_one (s : ByteArray) (y : Cel) : ∀ u ∈ celV s y, u.oneCell' = true := by
  intro u hu; simp [celV] at hu; rcases hu with rfl | rfl | rfl <;> rfl
theorem celsV_get (s : ByteArray) : ∀ (l : List Cel) (i : Nat) (y : Cel), l[i]? = some y →
    (celsV s l)[i * 3]? = some (.string (s.extract y.1 y.2.1)) ∧ (celsV s l)[i * 3 + 1]? = some (.int .i64 y.1) ∧ (celsV s l)[i * 3 + 2]? = some (.int .i64 y.2.2)
  | [], i, y, h => by simp at h
  | a :: l, 0, y, h => by simp at h; subst h; simp [celsV, celV]
  | a :: l, i + 1, y, h => by
    have ih := celsV_get s l i y (by simpa using h)
    have e : celsV s (a :: l) = celV s a ++ celsV s l := by simp [celsV]
    have hl : (celV s a).length = 3 := rfl
    rw [e, List.getElem?_append_right (by omega), List.getElem?_append_right (by omega), List.getElem?_append_right (by omega), hl, show (i + 1) * 3 - 3 = i * 3 by omega, show (i + 1) * 3 + 1 - 3 = i * 3 + 1 by omega, show (i + 1) * 3 + 2 - 3 = i * 3 + 2 by omega]
    exact ih
theorem celsV_set (s : ByteArray) (init : List Cel) (y : Cel) (t : Nat) : (celsV s (init ++ [y])).set (init.length * 3) (.string (s.extract y.1 t)) = celsV s (init ++ [(y.1, t, y.2.2)]) := by
  rw [celsV_snoc, celsV_snoc, List.set_append_right _ _ (by rw [celsV_len]; exact Nat.le_refl _), celsV_len]
  simp [celV]
theorem extract_join (s : ByteArray) (a b c : Nat) (h1 : a ≤ b) (h2 : b ≤ c) : s.extract a b ++ s.extract b c = s.extract a c := by
  simp [h1, h2, Nat.min_eq_left, Nat.max_eq_right]
end Go.Proofs.YtoeknophfcfahaaGreatDoor
