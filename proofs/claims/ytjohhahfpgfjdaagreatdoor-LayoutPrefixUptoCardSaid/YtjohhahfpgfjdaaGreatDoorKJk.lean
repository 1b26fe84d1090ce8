/- Layer 11, plain: behind an operation the two counts still tell the same. -/
import Derived.Test.YtjohhahfpgfjdaaGreatDoorKJj
namespace Go.Proofs.YtjohhahfpgfjdaaGreatDoor.Ir
open Go.Proofs.YtjohhahfpgfjdaaGreatDoor
set_option linter.unusedVariables false
set_option linter.unusedSimpArgs false
def mapTopD (f : Dl → Dl) (l : List Dl) : List Dl := l.dropLast ++ (l.getLast?.map f).toList
/-- What is open behind an operation, as the document counts. -/
def dTake (d : Dc) (k : Int) (wl : Nat) : Dc :=
  if k = 2 ∨ k = 3 ∨ k = 4 then { d with br := d.br ++ [decide (k ≠ 2)], tx := decide (k = 1) }
  else if k = 5 then { d with br := d.br.dropLast, tx := decide (k = 1) }
  else if k = 8 then { d with para := true, op := mapTopD (fun l => { l with cells := l.cells + 1 }) d.op, tx := decide (k = 1) }
  else if k = 9 then { d with para := false, tx := decide (k = 1) }
  else if k = 10 then { d with op := d.op ++ [dl0], tx := decide (k = 1) }
  else if k = 12 then { d with op := d.op ++ [⟨true, 0, wl, 0, 0⟩], tx := decide (k = 1) }
  else if k = 11 then { d with op := mapTopD (fun l => { l with items := l.items + 1 }) d.op, tx := decide (k = 1) }
  else if k = 13 then { d with op := mapTopD (fun l => { l with rows := l.rows + 1, cells := 0 }) d.op, tx := decide (k = 1) }
  else if k = 14 then { d with op := d.op.dropLast, tx := decide (k = 1) }
  else { d with tx := decide (k = 1) }
theorem LvsR.snoc {a : List Dl} {b : List Lv} {x : Dl} {y : Lv} (h : LvsR a b) (hx : LvR x y) : LvsR (a ++ [x]) (b ++ [y]) := by
  induction h with
  | nil => exact .cons hx .nil
  | cons h1 _ ih => exact .cons h1 ih
theorem LvsR.mapTop {a : List Dl} {b : List Lv} {f : Dl → Dl} {g : Lv → Lv} (h : LvsR a b) (hf : ∀ x y, a.getLast? = some x → b.getLast? = some y → LvR x y → LvR (f x) (g y)) : LvsR (mapTopD f a) (mapTop g b) := by
  rcases h.last with ⟨rfl, rfl⟩ | ⟨a', x, b', y, rfl, rfl, h1, h2⟩
  · exact .nil
  · have := hf x y (by simp) (by simp) h2
    simp only [mapTopD, Go.Proofs.YtjohhahfpgfjdaaGreatDoor.mapTop, List.dropLast_concat, List.getLast?_append, List.getLast?_singleton, Option.some_or, Option.map_some, Option.toList_some]
    exact h1.snoc this
theorem LvsR.drop {a : List Dl} {b : List Lv} (h : LvsR a b) : LvsR a.dropLast b.dropLast := by
  rcases h.last with ⟨rfl, rfl⟩ | ⟨a', x, b', y, rfl, rfl, h1, h2⟩
  · exact .nil
  · simp only [List.dropLast_concat]
    exact h1
theorem take_rel {d : Dc} {s : Wk} (h : DcR d s) (o : Opr) (hm : mayS s o.k = true) (h12 : o.k = 12 → 1 ≤ o.w.length) (h10 : o.k = 10 → o.w.length = 0) : DcR (dTake d o.k o.w.length) (takeS s o) := by
  obtain ⟨k, n, t, ws⟩ := o
  dsimp only at hm h12 h10 ⊢
  obtain ⟨hp, hb, ho, ht, hn, hd, hi⟩ := h
  unfold dTake takeS
  dsimp only
  by_cases k234 : k = 2 ∨ k = 3 ∨ k = 4
  · rw [if_pos k234, if_pos k234]
    have hpm : s.para = true ∧ s.br.length ≠ 16 := by
      rcases k234 with rfl | rfl | rfl <;> simp [mayS] at hm
      · exact ⟨hm.2, hm.1⟩
      · exact ⟨hm.2, hm.1.2⟩
      · exact ⟨hm.2, hm.1.2⟩
    refine ⟨hp, ?_, ho, rfl, by simp; omega, hd, fun _ => hpm.1⟩
    rw [hb, List.map_append]
    rcases k234 with rfl | rfl | rfl <;> rfl
  rw [if_neg k234, if_neg k234]
  by_cases k5 : k = 5
  · rw [if_pos k5, if_pos k5]
    refine ⟨hp, by rw [hb, List.map_dropLast], ho, rfl, by simp; omega, hd, fun h => hi (by rintro h9; rw [h9] at h; exact h rfl)⟩
  rw [if_neg k5, if_neg k5]
  by_cases k8 : k = 8
  · rw [if_pos k8, if_pos k8]
    subst k8
    refine ⟨rfl, hb, ho.mapTop fun x y e1 e2 hxy => ?_, rfl, hn, by rw [mapTop_len]; exact hd, fun _ => rfl⟩
    have hr : roomB y = true := by
      simp [mayS, topL, e2] at hm
      rcases hm.2 with h | h
      · rw [h] at e2; cases e2
      · exact h
    rcases hxy with ⟨x1, x2, x3, x4, x5, x6⟩ | ⟨x1, x2, x3⟩
    · refine .inl ⟨x1, x2, x3, x4, by simp [x5], ?_⟩
      simp [roomB, shortB, tabB, x2, x3, x5] at hr
      show x.cells + 1 ≤ x.wide
      omega
    · exact .inr ⟨x1, x2, x3⟩
  rw [if_neg k8, if_neg k8]
  by_cases k9 : k = 9
  · rw [if_pos k9, if_pos k9]
    subst k9
    refine ⟨rfl, hb, ho, rfl, hn, hd, fun h => ?_⟩
    simp [mayS] at hm
    exact absurd hm.2 h
  rw [if_neg k9, if_neg k9]
  by_cases k10 : k = 10
  · rw [if_pos k10, if_pos (.inl k10), h10 k10]
    subst k10
    refine ⟨hp, hb, ho.snoc (.inr ⟨rfl, rfl, rfl⟩), rfl, hn, ?_, hi⟩
    simp [mayS] at hm
    simp
    omega
  rw [if_neg k10]
  by_cases k12 : k = 12
  · rw [if_pos k12, if_pos (.inr k12)]
    have hw := h12 k12
    subst k12
    refine ⟨hp, hb, ho.snoc (.inl ⟨rfl, rfl, hw, rfl, rfl, Nat.zero_le _⟩), rfl, hn, ?_, hi⟩
    simp [mayS] at hm
    simp [hm.2]
  have n1 : ¬ (k = 10 ∨ k = 12) := by omega
  rw [if_neg k12, if_neg n1]
  by_cases k11 : k = 11
  · rw [if_pos k11, if_pos (.inl k11)]
    subst k11
    refine ⟨hp, hb, ho.mapTop fun x y e1 e2 hxy => ?_, rfl, hn, by rw [mapTop_len]; exact hd, hi⟩
    have hr : tabB y = false := by
      simp [mayS, topL, e2] at hm
      exact hm.2
    rcases hxy with ⟨x1, x2, x3, x4, x5, x6⟩ | ⟨x1, x2, x3⟩
    · simp [tabB, x2] at hr; omega
    · exact .inr ⟨x1, x2, by simp [x3]⟩
  rw [if_neg k11]
  by_cases k13 : k = 13
  · rw [if_pos k13, if_pos (.inr k13)]
    subst k13
    refine ⟨hp, hb, ho.mapTop fun x y e1 e2 hxy => ?_, rfl, hn, by rw [mapTop_len]; exact hd, hi⟩
    have hr : tabB y = true := by
      simp [mayS, topL, e2] at hm
      exact hm.1.1.1
    rcases hxy with ⟨x1, x2, x3, x4, x5, x6⟩ | ⟨x1, x2, x3⟩
    · exact .inl ⟨x1, x2, x3, by simp [x4], rfl, Nat.zero_le _⟩
    · simp [tabB, x2] at hr
  have n2 : ¬ (k = 11 ∨ k = 13) := by omega
  rw [if_neg k13, if_neg n2]
  by_cases k14 : k = 14
  · rw [if_pos k14, if_pos k14]
    exact ⟨hp, hb, ho.drop, rfl, hn, by simp; omega, hi⟩
  rw [if_neg k14, if_neg k14]
  exact ⟨hp, hb, ho, rfl, hn, hd, hi⟩
end Go.Proofs.YtjohhahfpgfjdaaGreatDoor.Ir
