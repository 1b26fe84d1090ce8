/- Layer 11, plain: the document's count of what is open, and the program's. -/
import Derived.Test.YtjohhahfpgfjdaaGreatDoorKJi
namespace Go.Proofs.YtjohhahfpgfjdaaGreatDoor.Ir
open Go.Proofs.YtjohhahfpgfjdaaGreatDoor
set_option linter.unusedVariables false
set_option linter.unusedSimpArgs false
def dTop (d : Dc) : Dl := d.op.getLast?.getD dl0
/-- Whether an operation of a kind may come next. -/
def dMay (d : Dc) (k : Int) : Bool :=
  if k ≤ 7 ∨ k = 9 then
    d.para && (if k = 1 then !d.tx
      else if k = 2 ∨ k = 3 ∨ k = 4 then !(decide (16 ≤ d.br.length) || (decide (k ≠ 2) && d.br.any id))
      else if k = 5 then decide (0 < d.br.length)
      else if k = 9 then decide (d.br.length = 0)
      else true)
  else !d.para && (if k = 8 then !(!d.op.isEmpty && ((dTop d).tab && (decide ((dTop d).rows = 0) || decide ((dTop d).wide ≤ (dTop d).cells)) || !(dTop d).tab && decide ((dTop d).items = 0)))
      else if k = 10 then !(!d.op.isEmpty && ((dTop d).tab || decide ((dTop d).items = 0)) || decide (8 ≤ d.op.length))
      else if k = 11 then !(d.op.isEmpty || (dTop d).tab)
      else if k = 12 then d.op.isEmpty
      else if k = 13 then !(d.op.isEmpty || !(dTop d).tab || !fullB (dTop d))
      else if k = 14 then !(d.op.isEmpty || (dTop d).tab && !fullB (dTop d))
      else true)
/-- A list or a table as the one counts and as the other does. -/
def LvR (l : Dl) (o : Lv) : Prop := (l.tab = true ∧ o.wide = l.wide ∧ 0 < l.wide ∧ o.parts = l.rows ∧ o.cells = l.cells ∧ l.cells ≤ l.wide) ∨ (l.tab = false ∧ o.wide = 0 ∧ o.parts = l.items)
inductive LvsR : List Dl → List Lv → Prop
  | nil : LvsR [] []
  | cons {x : Dl} {y : Lv} {a : List Dl} {b : List Lv} : LvR x y → LvsR a b → LvsR (x :: a) (y :: b)
structure DcR (d : Dc) (s : Wk) : Prop where
  para : d.para = s.para
  br : d.br = s.br.map isLk
  op : LvsR d.op s.op
  tx : d.tx = decide (s.ah = 1)
  nest : s.br.length ≤ 16
  deep : s.op.length ≤ 8
  inner : s.br ≠ [] → s.para = true
theorem LvsR.len {a : List Dl} {b : List Lv} (h : LvsR a b) : a.length = b.length := by
  induction h with
  | nil => rfl
  | cons _ _ ih => simp [ih]
theorem LvsR.last {a : List Dl} {b : List Lv} (h : LvsR a b) : (a = [] ∧ b = []) ∨ ∃ a' x b' y, a = a' ++ [x] ∧ b = b' ++ [y] ∧ LvsR a' b' ∧ LvR x y := by
  induction h with
  | nil => exact .inl ⟨rfl, rfl⟩
  | @cons x y l m h1 h2 ih =>
    rcases ih with ⟨rfl, rfl⟩ | ⟨a', x', b', y', rfl, rfl, h3, h4⟩
    · exact .inr ⟨[], x, [], y, rfl, rfl, .nil, h1⟩
    · exact .inr ⟨x :: a', x', y :: b', y', rfl, rfl, .cons h1 h3, h4⟩
theorem any_map (l : List Int) : (l.map isLk).any id = l.any isLk := by
  induction l with
  | nil => rfl
  | cons x l ih => simp [ih]
theorem may_eq {d : Dc} {s : Wk} (h : DcR d s) {k : Int} (hk : 1 ≤ k ∧ k ≤ 14) : dMay d k = mayS s k := by
  obtain ⟨hp, hb, ho, ht, hn, hd, hi⟩ := h
  have hbl : d.br.length = s.br.length := by rw [hb]; simp
  have hba : d.br.any id = s.br.any isLk := by rw [hb, any_map]
  have hol := ho.len
  have hkk : k = 1 ∨ k = 2 ∨ k = 3 ∨ k = 4 ∨ k = 5 ∨ k = 6 ∨ k = 7 ∨ k = 8 ∨ k = 9 ∨ k = 10 ∨ k = 11 ∨ k = 12 ∨ k = 13 ∨ k = 14 := by omega
  have h16 : decide (16 ≤ s.br.length) = !decide (s.br.length ≠ 16) := by
    by_cases h : s.br.length = 16 <;> simp [h]; omega
  have h5 : (s.para && decide (0 < s.br.length)) = decide (0 < s.br.length) := by
    by_cases h : s.br = []
    · simp [h]
    · rw [hi h]; simp
  rcases ho.last with ⟨e1, e2⟩ | ⟨a', x, b', y, e1, e2, _, hxy⟩
  · rcases hkk with rfl | rfl | rfl | rfl | rfl | rfl | rfl | rfl | rfl | rfl | rfl | rfl | rfl | rfl <;>
      simp [dMay, mayS, hp, hbl, hba, ht, h16, e1, e2, dTop, topL, tabB, lv0, dl0, Bool.and_comm, h5, roomB, shortB] <;>
      first | done | (cases s.para <;> simp) | skip
  · have t1 : dTop d = x := by simp [dTop, e1]
    have t2 : topL s = y := by simp [topL, e2]
    have i1 : d.op.isEmpty = false := by simp [e1]
    have i2 : decide (s.op.length = 0) = false := by simp [e2]
    have i3 : decide (0 < s.op.length) = true := by simp [e2]
    have h8 : decide (8 ≤ d.op.length) = !decide (s.op.length ≠ 8) := by
      rw [hol]
      by_cases h : s.op.length = 8 <;> simp [h]; omega
    clear e1 e2 ho hi
    rcases hxy with ⟨x1, x2, x3, x4, x5, x6⟩ | ⟨x1, x2, x3⟩
    · have w1 : decide (0 < y.wide) = true := by simp; omega
      have w2 : decide (0 < y.parts) = !decide (x.rows = 0) := by rw [x4]; by_cases h : x.rows = 0 <;> simp [h]; omega
      have w3 : decide (y.cells < y.wide) = !decide (x.wide ≤ x.cells) := by rw [x5, x2]; by_cases h : x.wide ≤ x.cells <;> simp [h] <;> omega
      have w4 : decide (x.cells = x.wide) = decide (x.wide ≤ x.cells) := by by_cases h : x.wide ≤ x.cells <;> simp [h] <;> omega
      rcases hkk with rfl | rfl | rfl | rfl | rfl | rfl | rfl | rfl | rfl | rfl | rfl | rfl | rfl | rfl <;>
        simp only [dMay, mayS, hp, hbl, hba, ht, h16, t1, t2, i1, i2, i3, h8, roomB, shortB, tabB, fullB, x1, w1, w2, w3, w4] <;>
        first | (simp; done) | (rw [← h5]; simp; done) | (cases s.para <;> cases decide (x.rows = 0) <;> cases decide (x.wide ≤ x.cells) <;> simp; done) | (cases s.para <;> cases decide (s.br.length ≠ 16) <;> cases s.br.any isLk <;> simp; done) | (cases s.para <;> cases decide (s.ah = 1) <;> simp; done) | skip
    · have w1 : decide (0 < y.wide) = false := by simp; omega
      have w2 : decide (0 < y.parts) = !decide (x.items = 0) := by rw [x3]; by_cases h : x.items = 0 <;> simp [h]; omega
      rcases hkk with rfl | rfl | rfl | rfl | rfl | rfl | rfl | rfl | rfl | rfl | rfl | rfl | rfl | rfl <;>
        simp only [dMay, mayS, hp, hbl, hba, ht, h16, t1, t2, i1, i2, i3, h8, roomB, shortB, tabB, fullB, x1, w1, w2] <;>
        first | (simp; done) | (rw [← h5]; simp; done) | (cases s.para <;> cases decide (x.items = 0) <;> cases decide (s.op.length ≠ 8) <;> simp; done) | (cases s.para <;> cases decide (s.br.length ≠ 16) <;> cases s.br.any isLk <;> simp; done) | (cases s.para <;> cases decide (s.ah = 1) <;> simp; done) | skip
end Go.Proofs.YtjohhahfpgfjdaaGreatDoor.Ir
