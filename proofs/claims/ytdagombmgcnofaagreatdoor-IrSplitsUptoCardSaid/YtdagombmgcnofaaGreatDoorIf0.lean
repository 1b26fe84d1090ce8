/- Layer 11: the program's take: what is open behind an operation. -/
import Derived.Test.YtdagombmgcnofaaGreatDoorIc
import Derived.BigRegion
namespace Go.Proofs.YtdagombmgcnofaaGreatDoor.Ir
open Go.RowKit Go.Maps Go.Proofs.YtdagombmgcnofaaGreatDoor
set_option linter.unusedVariables false
def CurAt (M : Nat) (w : World) (c : Array Value) : Prop := w.heap[M]? = some (.cells c 149 (0, 0))
theorem szM {M : Nat} {w : World} (h : M < w.heap.size) {a : Addr} {u : Value} : M ≤ (w.setCell a u).heap.size := by simp; omega
theorem szM2 {M : Nat} {w : World} (h : M < w.heap.size) {a b : Addr} {u v : Value} : M ≤ ((w.setCell a u).setCell b v).heap.size := by simp; omega
theorem szM4 {M : Nat} {w : World} (h : M < w.heap.size) {a b d : Addr} {u v x : Value} : M ≤ (((w.setCell a u).setCell b v).setCell d x).heap.size := by simp; omega
theorem szM5 {M : Nat} {w : World} (h : M < w.heap.size) {a b d e : Addr} {u v x y : Value} : M ≤ ((((w.setCell a u).setCell b v).setCell d x).setCell e y).heap.size := by simp; omega
theorem szM6 {M : Nat} {w : World} (h : M < w.heap.size) {a b d e f : Addr} {u v x y z : Value} : M ≤ (((((w.setCell a u).setCell b v).setCell d x).setCell e y).setCell f z).heap.size := by simp; omega
theorem szM3 {M : Nat} {w : World} (h : M < w.heap.size) : M ≤ w.heap.size := Nat.le_of_lt h
theorem CurAt.set {M : Nat} {w : World} {c : Array Value} (h : CurAt M w c) (j : Nat) (u : Value) : CurAt M (w.setCell ⟨M, j, none⟩ u) (c.setIfInBounds j u) := heap_setCell_same w M j c _ u h
theorem CurAt.drew {M : Nat} {w : World} {c : Array Value} (h : CurAt M w c) : CurAt M w.drew c := h
theorem CurAt.alloc {M : Nat} {w : World} {c : Array Value} (h : CurAt M w c) (x : Obj) : CurAt M (w.alloc x) c := (Below.heap_alloc w x M (Array.getElem?_eq_some_iff.1 h).1).trans h
theorem CurAt.free {M : Nat} {w : World} {c : Array Value} (h : CurAt M w c) (j : Nat) : w.frozen? ⟨M, j, none⟩ = false := frozen_of_row w M j c _ h
def AllNum (c : Array Value) : Prop := ∀ j, j < 24 → ∃ z, c[j]? = some (.int .i64 z)
theorem AllNum.set {c : Array Value} (h : AllNum c) (i : Nat) (z : Int) : AllNum (c.setIfInBounds i (.int .i64 z)) := by
  intro j hj
  obtain ⟨y, hy⟩ := h j hj
  rw [Array.getElem?_setIfInBounds]
  by_cases e : i = j
  · subst e
    rw [if_pos rfl, if_pos (Array.getElem?_eq_some_iff.1 hy).1]
    exact ⟨z, rfl⟩
  · rw [if_neg e]
    exact ⟨y, hy⟩
theorem AllNum.other {c : Array Value} (h : AllNum c) (i : Nat) (u : Value) (hi : 24 ≤ i) : AllNum (c.setIfInBounds i u) := by
  intro j hj
  rw [Array.getElem?_setIfInBounds_ne (by omega)]
  exact h j hj
theorem get_set {c : Array Value} {i j : Nat} {u : Value} (h : i < c.size) : (c.setIfInBounds i u)[j]? = if i = j then some u else c[j]? := by
  rw [Array.getElem?_setIfInBounds]
  by_cases e : i = j
  · rw [if_pos e, if_pos e, if_pos h]
  · rw [if_neg e, if_neg e]
section
variable {c : Array Value} {s : Wk}
theorem CurIs.setAh (h : CurIs c s) (k : Int) : CurIs (c.setIfInBounds 43 (.int .i64 k)) { s with ah := k } := by
  have hz := h.size
  have g : ∀ j, j ≠ 43 → (c.setIfInBounds 43 (.int .i64 k))[j]? = c[j]? := fun j hj => Array.getElem?_setIfInBounds_ne (fun e => hj e.symm)
  exact ⟨by simpa using hz, AllNum.other h.all _ _ (by omega), fun j hj => by have := h.hop; dsimp only at hj ⊢; rw [g _ (by omega), g _ (by omega), g _ (by omega)]; exact h.op j hj, (g _ (by omega)).trans h.depth, fun j hj => by have := h.hbr; dsimp only at hj ⊢; rw [g _ (by omega)]; exact h.br j hj, (g _ (by omega)).trans h.nest, (g _ (by omega)).trans h.para, by rw [get_set (by omega), if_pos rfl], h.hop, h.hbr⟩
theorem CurIs.setPara (h : CurIs c s) (b : Bool) : CurIs (c.setIfInBounds 42 (.bool b)) { s with para := b } := by
  have hz := h.size
  have g : ∀ j, j ≠ 42 → (c.setIfInBounds 42 (.bool b))[j]? = c[j]? := fun j hj => Array.getElem?_setIfInBounds_ne (fun e => hj e.symm)
  exact ⟨by simpa using hz, AllNum.other h.all _ _ (by omega), fun j hj => by have := h.hop; dsimp only at hj ⊢; rw [g _ (by omega), g _ (by omega), g _ (by omega)]; exact h.op j hj, (g _ (by omega)).trans h.depth, fun j hj => by have := h.hbr; dsimp only at hj ⊢; rw [g _ (by omega)]; exact h.br j hj, (g _ (by omega)).trans h.nest, by rw [get_set (by omega), if_pos rfl], (g _ (by omega)).trans h.ah, h.hop, h.hbr⟩
theorem CurIs.pushBr (h : CurIs c s) (k : Int) (hn : s.br.length < 16) : CurIs ((c.setIfInBounds (25 + s.br.length) (.int .i64 k)).setIfInBounds 41 (.int .i64 ((s.br.length + 1 : Nat) : Int))) { s with br := s.br ++ [k] } := by
  have hz := h.size
  have g : ∀ j, j ≠ 41 → j ≠ 25 + s.br.length → ((c.setIfInBounds (25 + s.br.length) (.int .i64 k)).setIfInBounds 41 (.int .i64 ((s.br.length + 1 : Nat) : Int)))[j]? = c[j]? := fun j hj hk => by
    rw [Array.getElem?_setIfInBounds_ne (fun e => hj e.symm), Array.getElem?_setIfInBounds_ne (fun e => hk e.symm)]
  refine ⟨by simpa using hz, AllNum.other (AllNum.other h.all _ _ (by omega)) _ _ (by omega), fun j hj => by have := h.hop; dsimp only at hj ⊢; rw [g _ (by omega) (by omega), g _ (by omega) (by omega), g _ (by omega) (by omega)]; exact h.op j hj, (g _ (by omega) (by omega)).trans h.depth, fun j hj => ?_, by rw [get_set (by simp; omega), if_pos rfl]; simp, (g _ (by omega) (by omega)).trans h.para, (g _ (by omega) (by omega)).trans h.ah, h.hop, by simp; omega⟩
  dsimp only at hj ⊢
  rw [List.length_append, List.length_singleton] at hj
  rcases Nat.lt_or_ge j s.br.length with hl | hl
  · rw [g _ (by omega) (by omega), List.getElem_append_left hl]
    exact h.br j hl
  · obtain rfl : j = s.br.length := by omega
    rw [Array.getElem?_setIfInBounds_ne (by omega), get_set (by omega), if_pos rfl]
    simp
theorem CurIs.popBr (h : CurIs c s) (n : Nat) (hn : s.br.length = n + 1) : CurIs (c.setIfInBounds 41 (.int .i64 (n : Int))) { s with br := s.br.dropLast } := by
  have hz := h.size
  have hl : s.br.dropLast.length = n := by rw [List.length_dropLast]; omega
  have hbr := h.hbr
  have g : ∀ j, j ≠ 41 → (c.setIfInBounds 41 (.int .i64 (n : Int)))[j]? = c[j]? := fun j hj => Array.getElem?_setIfInBounds_ne (fun e => hj e.symm)
  refine ⟨by simpa using hz, AllNum.other h.all _ _ (by omega), fun j hj => by have := h.hop; dsimp only at hj ⊢; rw [g _ (by omega), g _ (by omega), g _ (by omega)]; exact h.op j hj, (g _ (by omega)).trans h.depth, fun j hj => ?_, by rw [get_set (by omega), if_pos rfl]; dsimp only; rw [hl], (g _ (by omega)).trans h.para, (g _ (by omega)).trans h.ah, h.hop, by dsimp only; omega⟩
  dsimp only at hj ⊢
  rw [g _ (by omega), List.getElem_dropLast]
  exact h.br j (by omega)
theorem CurIs.popOp (h : CurIs c s) (m : Nat) (hm : s.op.length = m + 1) : CurIs (c.setIfInBounds 24 (.int .i64 (m : Int))) { s with op := s.op.dropLast } := by
  have hz := h.size
  have hl : s.op.dropLast.length = m := by rw [List.length_dropLast]; omega
  have hop := h.hop
  have g : ∀ j, j ≠ 24 → (c.setIfInBounds 24 (.int .i64 (m : Int)))[j]? = c[j]? := fun j hj => Array.getElem?_setIfInBounds_ne (fun e => hj e.symm)
  refine ⟨by simpa using hz, AllNum.other h.all _ _ (by omega), fun j hj => ?_, by rw [get_set (by omega), if_pos rfl]; dsimp only; rw [hl], fun j hj => by have := h.hbr; dsimp only at hj ⊢; rw [g _ (by omega)]; exact h.br j hj, (g _ (by omega)).trans h.nest, (g _ (by omega)).trans h.para, (g _ (by omega)).trans h.ah, by dsimp only; omega, h.hbr⟩
  dsimp only at hj ⊢
  rw [g _ (by omega), g _ (by omega), g _ (by omega), List.getElem_dropLast]
  exact h.op j (by omega)
theorem CurIs.pushOp (h : CurIs c s) (k : Nat) (hm : s.op.length < 8) : CurIs ((((c.setIfInBounds (s.op.length * 3) (.int .i64 (k : Int))).setIfInBounds (s.op.length * 3 + 1) (.int .i64 0)).setIfInBounds (s.op.length * 3 + 2) (.int .i64 0)).setIfInBounds 24 (.int .i64 ((s.op.length + 1 : Nat) : Int))) { s with op := s.op ++ [⟨k, 0, 0⟩] } := by
  have hz := h.size
  have g : ∀ j, j ≠ 24 → (j < s.op.length * 3 ∨ s.op.length * 3 + 2 < j) → ((((c.setIfInBounds (s.op.length * 3) (.int .i64 (k : Int))).setIfInBounds (s.op.length * 3 + 1) (.int .i64 0)).setIfInBounds (s.op.length * 3 + 2) (.int .i64 0)).setIfInBounds 24 (.int .i64 ((s.op.length + 1 : Nat) : Int)))[j]? = c[j]? := fun j hj hk => by
    rw [Array.getElem?_setIfInBounds_ne (fun e => hj e.symm), Array.getElem?_setIfInBounds_ne (by omega), Array.getElem?_setIfInBounds_ne (by omega), Array.getElem?_setIfInBounds_ne (by omega)]
  refine ⟨by simpa using hz, AllNum.other (AllNum.set (AllNum.set (AllNum.set h.all _ _) _ _) _ _) _ _ (by omega), fun j hj => ?_, by rw [get_set (by simp; omega), if_pos rfl]; simp, fun j hj => by have := h.hbr; dsimp only at hj ⊢; rw [g _ (by omega) (by omega)]; exact h.br j hj, (g _ (by omega) (by omega)).trans h.nest, (g _ (by omega) (by omega)).trans h.para, (g _ (by omega) (by omega)).trans h.ah, by simp; omega, h.hbr⟩
  dsimp only at hj ⊢
  rw [List.length_append, List.length_singleton] at hj
  rcases Nat.lt_or_ge j s.op.length with hl | hl
  · rw [g _ (by omega) (by omega), g _ (by omega) (by omega), g _ (by omega) (by omega), List.getElem_append_left hl]
    exact h.op j hl
  · obtain rfl : j = s.op.length := by omega
    refine ⟨?_, ?_, ?_⟩
    · rw [Array.getElem?_setIfInBounds_ne (by omega), Array.getElem?_setIfInBounds_ne (by omega), Array.getElem?_setIfInBounds_ne (by omega), get_set (by omega), if_pos rfl]
      simp
    · rw [Array.getElem?_setIfInBounds_ne (by omega), Array.getElem?_setIfInBounds_ne (by omega), get_set (by simp; omega), if_pos rfl]
      simp
    · rw [Array.getElem?_setIfInBounds_ne (by omega), get_set (by simp; omega), if_pos rfl]
      simp
theorem mapTop_len (f : Lv → Lv) (l : List Lv) : (mapTop f l).length = l.length := by
  unfold mapTop
  cases h : l.getLast? with
  | none => rw [List.getLast?_eq_none_iff.1 h]; rfl
  | some x =>
    have : l ≠ [] := by intro e; rw [e] at h; cases h
    have := List.length_pos_iff.2 this
    simp
    omega
theorem mapTop_at (f : Lv → Lv) {l : List Lv} {m : Nat} (hm : l.length = m + 1) (j : Nat) (hj : j < (mapTop f l).length) : (mapTop f l)[j] = if j = m then f (l[m]) else l[j]'(by rw [mapTop_len] at hj; exact hj) := by
  have hx : l.getLast? = some l[m] := by rw [List.getLast?_eq_getElem?, show l.length - 1 = m by omega]; exact List.getElem?_eq_getElem (by omega)
  have hj' := hj
  rw [mapTop_len] at hj'
  have e : mapTop f l = l.dropLast ++ [f l[m]] := by unfold mapTop; rw [hx]; rfl
  have hd : l.dropLast.length = m := by rw [List.length_dropLast]; omega
  simp only [e]
  by_cases ej : j = m
  · subst ej
    rw [if_pos rfl, List.getElem_append_right (by omega)]
    simp
  · rw [if_neg ej, List.getElem_append_left (by omega), List.getElem_dropLast]
theorem mapTop_nil (f : Lv → Lv) {l : List Lv} (h : l.length = 0) : mapTop f l = l := by rw [List.eq_nil_of_length_eq_zero h]; rfl
theorem CurIs.cellUp (h : CurIs c s) (m : Nat) (hm : s.op.length = m + 1) : CurIs (c.setIfInBounds (m * 3 + 2) (.int .i64 ((s.op[m].cells + 1 : Nat) : Int))) { s with op := mapTop (fun l => { l with cells := l.cells + 1 }) s.op } := by
  have hz := h.size
  have hop := h.hop
  have g : ∀ j, j ≠ m * 3 + 2 → (c.setIfInBounds (m * 3 + 2) (.int .i64 ((s.op[m].cells + 1 : Nat) : Int)))[j]? = c[j]? := fun j hj => Array.getElem?_setIfInBounds_ne (fun e => hj e.symm)
  refine ⟨by simpa using hz, AllNum.set h.all _ _, fun j hj => ?_, by dsimp only; rw [mapTop_len]; exact (g _ (by omega)).trans h.depth, fun j hj => by have := h.hbr; dsimp only at hj ⊢; rw [g _ (by omega)]; exact h.br j hj, (g _ (by omega)).trans h.nest, (g _ (by omega)).trans h.para, (g _ (by omega)).trans h.ah, by dsimp only; rw [mapTop_len]; exact hop, h.hbr⟩
  dsimp only at hj ⊢
  rw [mapTop_at _ hm j hj]
  rw [mapTop_len] at hj
  by_cases ej : j = m
  · subst ej
    rw [if_pos rfl]
    obtain ⟨a, b, d⟩ := h.op j hj
    refine ⟨?_, ?_, ?_⟩
    · rw [g _ (by omega)]; exact a
    · rw [g _ (by omega)]; exact b
    · rw [get_set (by omega), if_pos rfl]
  · rw [if_neg ej, g _ (by omega), g _ (by omega), g _ (by omega)]
    exact h.op j hj
theorem CurIs.partUp (h : CurIs c s) (m : Nat) (hm : s.op.length = m + 1) : CurIs ((c.setIfInBounds (m * 3 + 1) (.int .i64 ((s.op[m].parts + 1 : Nat) : Int))).setIfInBounds (m * 3 + 2) (.int .i64 0)) { s with op := mapTop (fun l => { l with parts := l.parts + 1, cells := 0 }) s.op } := by
  have hz := h.size
  have hop := h.hop
  have g : ∀ j, j ≠ m * 3 + 1 → j ≠ m * 3 + 2 → ((c.setIfInBounds (m * 3 + 1) (.int .i64 ((s.op[m].parts + 1 : Nat) : Int))).setIfInBounds (m * 3 + 2) (.int .i64 0))[j]? = c[j]? := fun j hj hk => by rw [Array.getElem?_setIfInBounds_ne (fun e => hk e.symm), Array.getElem?_setIfInBounds_ne (fun e => hj e.symm)]
  refine ⟨by simpa using hz, AllNum.set (AllNum.set h.all _ _) _ _, fun j hj => ?_, by dsimp only; rw [mapTop_len]; exact (g _ (by omega) (by omega)).trans h.depth, fun j hj => by have := h.hbr; dsimp only at hj ⊢; rw [g _ (by omega) (by omega)]; exact h.br j hj, (g _ (by omega) (by omega)).trans h.nest, (g _ (by omega) (by omega)).trans h.para, (g _ (by omega) (by omega)).trans h.ah, by dsimp only; rw [mapTop_len]; exact hop, h.hbr⟩
  dsimp only at hj ⊢
  rw [mapTop_at _ hm j hj]
  rw [mapTop_len] at hj
  by_cases ej : j = m
  · subst ej
    rw [if_pos rfl]
    obtain ⟨a, b, d⟩ := h.op j hj
    refine ⟨?_, ?_, ?_⟩
    · rw [g _ (by omega) (by omega)]; exact a
    · rw [Array.getElem?_setIfInBounds_ne (by omega), get_set (by omega), if_pos rfl]
    · rw [get_set (by simp; omega), if_pos rfl]; rfl
  · rw [if_neg ej, g _ (by omega) (by omega), g _ (by omega) (by omega), g _ (by omega) (by omega)]
    exact h.op j hj
end
def oprVal (x : Opr) (wv : Value) : Value := .agg #[.int .i64 x.k, .int .i64 x.n, .string x.t, wv]
def TakeIs (M : Nat) (w : World) (s : Wk) (x : Opr) (e : Ending) (w' : World) : Prop := e = .returned (.tuple #[]) ∧ WkIs M w' (takeS s x) ∧ Below M w w'
end Go.Proofs.YtdagombmgcnofaaGreatDoor.Ir
