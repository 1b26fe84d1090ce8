/- The texts that the laws of layout stand on, part 20. -/
import Derived.Test.YtjohhahfpgfjdaaGreatDoorK12
import Derived.Test.YtjohhahfpgfjdaaGreatDoorK15
import Derived.Test.YtjohhahfpgfjdaaGreatDoorK16
import Derived.Test.YtjohhahfpgfjdaaGreatDoorK17
import Derived.Test.YtjohhahfpgfjdaaGreatDoorK18
import Derived.Test.YtjohhahfpgfjdaaGreatDoorK19
import Derived.BigRegion
section
namespace Go.Proofs.YtjohhahfpgfjdaaGreatDoor.Ir
open Go.RowKit Go.Maps Go.Proofs.YtjohhahfpgfjdaaGreatDoor
set_option linter.unusedVariables false
theorem may_other {s : Wk} {k : Int} (h : ¬ (1 ≤ k ∧ k ≤ 14)) : mayS s k = false := by
  unfold mayS
  rw [if_neg (by omega), if_neg (by omega), if_neg (by omega), if_neg (by omega), if_neg (by omega), if_neg (by omega), if_neg (by omega), if_neg (by omega), if_neg (by omega), if_neg (by omega), if_neg (by omega), if_neg (by omega)]
set_option maxRecDepth 100000 in
set_option maxHeartbeats 2000000 in
theorem may_pro (M : Nat) (s : Wk) (k : Int) (w : World) (h : WkIs M w s) : mayCall M k s w := by
  by_cases hk : 1 ≤ k ∧ k ≤ 14
  · obtain ⟨j, rfl⟩ : ∃ j : Nat, k = j := ⟨k.toNat, by omega⟩
    have hj : 1 ≤ j ∧ j ≤ 14 := by omega
    clear hk
    rcases (show j = 1 ∨ j = 2 ∨ j = 3 ∨ j = 4 ∨ j = 5 ∨ j = 6 ∨ j = 7 ∨ j = 8 ∨ j = 9 ∨ j = 10 ∨ j = 11 ∨ j = 12 ∨ j = 13 ∨ j = 14 by omega) with rfl | rfl | rfl | rfl | rfl | rfl | rfl | rfl | rfl | rfl | rfl | rfl | rfl | rfl
    · exact may_1 M s w h
    · exact may_2 M s w h
    · exact may_link3 M s w h
    · exact may_link4 M s w h
    · exact may_5 M s w h
    · exact may_6 M s w h
    · exact may_7 M s w h
    · exact may_8 M s w h
    · exact may_9 M s w h
    · exact may_10 M s w h
    · exact may_11 M s w h
    · exact may_12 M s w h
    · exact may_13 M s w h
    · exact may_14 M s w h
  · unfold mayCall
    rw [may_other hk]
    have HI := Lib.hid (innermost_pro M s w h)
    obtain ⟨t, ht⟩ : ∃ t, topL s = t := ⟨_, rfl⟩
    rw [ht] at HI
    unfold lvVal at HI
    have k1 : (k == 1) = false := by simp; omega
    have k2 : (k == 2) = false := by simp; omega
    have k3 : (k == 3) = false := by simp; omega
    have k4 : (k == 4) = false := by simp; omega
    have k5 : (k == 5) = false := by simp; omega
    have k6 : (k == 6) = false := by simp; omega
    have k7 : (k == 7) = false := by simp; omega
    have k8 : (k == 8) = false := by simp; omega
    have k9 : (k == 9) = false := by simp; omega
    have k10 : (k == 10) = false := by simp; omega
    have k11 : (k == 11) = false := by simp; omega
    have k12 : (k == 12) = false := by simp; omega
    have k13 : (k == 13) = false := by simp; omega
    have k14 : (k == 14) = false := by simp; omega
    clear h ht hk
    go_enter Tryz.func50, Tryz.ntmps50
    go_wp2_with fail
    refine HI.out.mono ?_
    rintro e w1 ⟨rfl, hb⟩
    have HB1 := Lib.hid (hb.alloc hb.size (lvCells t))
    dsimp only [lvCells] at HB1
    clear hb
    go_wp2_with fail
    go_ret
    exact ⟨rfl, HB1.out⟩
end Go.Proofs.YtjohhahfpgfjdaaGreatDoor.Ir
end
section
namespace Go.Proofs.YtjohhahfpgfjdaaGreatDoor.Ir
open Go.RowKit Go.Maps Go.Proofs.YtjohhahfpgfjdaaGreatDoor
set_option linter.unusedVariables false
def CurAt (M : Nat) (w : World) (c : Array Value) : Prop := w.heap[M]? = some (.cells c 124 (0, 0))
theorem szM {M : Nat} {w : World} (h : M < w.heap.size) {a : Addr} {u : Value} : M ≤ (w.setCell a u).heap.size := by simp; omega
theorem szM2 {M : Nat} {w : World} (h : M < w.heap.size) {a b : Addr} {u v : Value} : M ≤ ((w.setCell a u).setCell b v).heap.size := by simp; omega
theorem szM4 {M : Nat} {w : World} (h : M < w.heap.size) {a b d : Addr} {u v x : Value} : M ≤ (((w.setCell a u).setCell b v).setCell d x).heap.size := by simp; omega
theorem szM6 {M : Nat} {w : World} (h : M < w.heap.size) {a b d e f : Addr} {u v x y z : Value} : M ≤ (((((w.setCell a u).setCell b v).setCell d x).setCell e y).setCell f z).heap.size := by simp; omega
theorem CurAt.set {M : Nat} {w : World} {c : Array Value} (h : CurAt M w c) (j : Nat) (u : Value) : CurAt M (w.setCell ⟨M, j, none⟩ u) (c.setIfInBounds j u) := heap_setCell_same w M j c _ u h
theorem CurAt.drew {M : Nat} {w : World} {c : Array Value} (h : CurAt M w c) : CurAt M w.drew c := h
theorem CurAt.alloc {M : Nat} {w : World} {c : Array Value} (h : CurAt M w c) (x : Obj) : CurAt M (w.alloc x) c := (Below.heap_alloc w x M (Array.getElem?_eq_some_iff.1 h).1).trans h
theorem CurAt.free {M : Nat} {w : World} {c : Array Value} (h : CurAt M w c) (j : Nat) : w.frozen? ⟨M, j, none⟩ = false := frozen_of_row w M j c _ h
def AllNum (c : Array Value) : Prop := ∀ j, j < 24 → ∃ z, c[j]? = some (.int .i64 z)
theorem AllNum.set {c : Array Value} (h : AllNum c) (i : Nat) (z : Int) : AllNum (c.setIfInBounds i (.int .i64 z)) := by
  intro j hj
  obtain ⟨y, hy⟩ := h j hj
  rw [Array.getElem?_setIfInBounds]
  by_cases e : i = j
  · subst e
    rw [if_pos rfl, if_pos (Array.getElem?_eq_some_iff.1 hy).1]
    exact ⟨z, rfl⟩
  · rw [if_neg e]
    exact ⟨y, hy⟩
theorem AllNum.other {c : Array Value} (h : AllNum c) (i : Nat) (u : Value) (hi : 24 ≤ i) : AllNum (c.setIfInBounds i u) := by
  intro j hj
  rw [Array.getElem?_setIfInBounds_ne (by omega)]
  exact h j hj
theorem get_set {c : Array Value} {i j : Nat} {u : Value} (h : i < c.size) : (c.setIfInBounds i u)[j]? = if i = j then some u else c[j]? := by
  rw [Array.getElem?_setIfInBounds]
  by_cases e : i = j
  · rw [if_pos e, if_pos e, if_pos h]
  · rw [if_neg e, if_neg e]
section
variable {c : Array Value} {s : Wk}
theorem CurIs.setAh (h : CurIs c s) (k : Int) : CurIs (c.setIfInBounds 43 (.int .i64 k)) { s with ah := k } := by
  have hz := h.size
  have g : ∀ j, j ≠ 43 → (c.setIfInBounds 43 (.int .i64 k))[j]? = c[j]? := fun j hj => Array.getElem?_setIfInBounds_ne (fun e => hj e.symm)
  exact ⟨by simpa using hz, AllNum.other h.all _ _ (by omega), fun j hj => by have := h.hop; dsimp only at hj ⊢; rw [g _ (by omega), g _ (by omega), g _ (by omega)]; exact h.op j hj, (g _ (by omega)).trans h.depth, fun j hj => by have := h.hbr; dsimp only at hj ⊢; rw [g _ (by omega)]; exact h.br j hj, (g _ (by omega)).trans h.nest, (g _ (by omega)).trans h.para, by rw [get_set (by omega), if_pos rfl], h.hop, h.hbr⟩
theorem CurIs.setPara (h : CurIs c s) (b : Bool) : CurIs (c.setIfInBounds 42 (.bool b)) { s with para := b } := by
  have hz := h.size
  have g : ∀ j, j ≠ 42 → (c.setIfInBounds 42 (.bool b))[j]? = c[j]? := fun j hj => Array.getElem?_setIfInBounds_ne (fun e => hj e.symm)
  exact ⟨by simpa using hz, AllNum.other h.all _ _ (by omega), fun j hj => by have := h.hop; dsimp only at hj ⊢; rw [g _ (by omega), g _ (by omega), g _ (by omega)]; exact h.op j hj, (g _ (by omega)).trans h.depth, fun j hj => by have := h.hbr; dsimp only at hj ⊢; rw [g _ (by omega)]; exact h.br j hj, (g _ (by omega)).trans h.nest, by rw [get_set (by omega), if_pos rfl], (g _ (by omega)).trans h.ah, h.hop, h.hbr⟩
theorem CurIs.pushBr (h : CurIs c s) (k : Int) (hn : s.br.length < 16) : CurIs ((c.setIfInBounds (25 + s.br.length) (.int .i64 k)).setIfInBounds 41 (.int .i64 ((s.br.length + 1 : Nat) : Int))) { s with br := s.br ++ [k] } := by
  have hz := h.size
  have g : ∀ j, j ≠ 41 → j ≠ 25 + s.br.length → ((c.setIfInBounds (25 + s.br.length) (.int .i64 k)).setIfInBounds 41 (.int .i64 ((s.br.length + 1 : Nat) : Int)))[j]? = c[j]? := fun j hj hk => by
    rw [Array.getElem?_setIfInBounds_ne (fun e => hj e.symm), Array.getElem?_setIfInBounds_ne (fun e => hk e.symm)]
  refine ⟨by simpa using hz, AllNum.other (AllNum.other h.all _ _ (by omega)) _ _ (by omega), fun j hj => by have := h.hop; dsimp only at hj ⊢; rw [g _ (by omega) (by omega), g _ (by omega) (by omega), g _ (by omega) (by omega)]; exact h.op j hj, (g _ (by omega) (by omega)).trans h.depth, fun j hj => ?_, by rw [get_set (by simp; omega), if_pos rfl]; simp, (g _ (by omega) (by omega)).trans h.para, (g _ (by omega) (by omega)).trans h.ah, h.hop, by simp; omega⟩
  dsimp only at hj ⊢
  rw [List.length_append, List.length_singleton] at hj
  rcases Nat.lt_or_ge j s.br.length with hl | hl
  · rw [g _ (by omega) (by omega), List.getElem_append_left hl]
    exact h.br j hl
  · obtain rfl : j = s.br.length := by omega
    rw [Array.getElem?_setIfInBounds_ne (by omega), get_set (by omega), if_pos rfl]
    simp
theorem CurIs.popBr (h : CurIs c s) (n : Nat) (hn : s.br.length = n + 1) : CurIs (c.setIfInBounds 41 (.int .i64 (n : Int))) { s with br := s.br.dropLast } := by
  have hz := h.size
  have hl : s.br.dropLast.length = n := by rw [List.length_dropLast]; omega
  have hbr := h.hbr
  have g : ∀ j, j ≠ 41 → (c.setIfInBounds 41 (.int .i64 (n : Int)))[j]? = c[j]? := fun j hj => Array.getElem?_setIfInBounds_ne (fun e => hj e.symm)
  refine ⟨by simpa using hz, AllNum.other h.all _ _ (by omega), fun j hj => by have := h.hop; dsimp only at hj ⊢; rw [g _ (by omega), g _ (by omega), g _ (by omega)]; exact h.op j hj, (g _ (by omega)).trans h.depth, fun j hj => ?_, by rw [get_set (by omega), if_pos rfl]; dsimp only; rw [hl], (g _ (by omega)).trans h.para, (g _ (by omega)).trans h.ah, h.hop, by dsimp only; omega⟩
  dsimp only at hj ⊢
  rw [g _ (by omega), List.getElem_dropLast]
  exact h.br j (by omega)
theorem CurIs.popOp (h : CurIs c s) (m : Nat) (hm : s.op.length = m + 1) : CurIs (c.setIfInBounds 24 (.int .i64 (m : Int))) { s with op := s.op.dropLast } := by
  have hz := h.size
  have hl : s.op.dropLast.length = m := by rw [List.length_dropLast]; omega
  have hop := h.hop
  have g : ∀ j, j ≠ 24 → (c.setIfInBounds 24 (.int .i64 (m : Int)))[j]? = c[j]? := fun j hj => Array.getElem?_setIfInBounds_ne (fun e => hj e.symm)
  refine ⟨by simpa using hz, AllNum.other h.all _ _ (by omega), fun j hj => ?_, by rw [get_set (by omega), if_pos rfl]; dsimp only; rw [hl], fun j hj => by have := h.hbr; dsimp only at hj ⊢; rw [g _ (by omega)]; exact h.br j hj, (g _ (by omega)).trans h.nest, (g _ (by omega)).trans h.para, (g _ (by omega)).trans h.ah, by dsimp only; omega, h.hbr⟩
  dsimp only at hj ⊢
  rw [g _ (by omega), g _ (by omega), g _ (by omega), List.getElem_dropLast]
  exact h.op j (by omega)
theorem CurIs.pushOp (h : CurIs c s) (k : Nat) (hm : s.op.length < 8) : CurIs ((((c.setIfInBounds (s.op.length * 3) (.int .i64 (k : Int))).setIfInBounds (s.op.length * 3 + 1) (.int .i64 0)).setIfInBounds (s.op.length * 3 + 2) (.int .i64 0)).setIfInBounds 24 (.int .i64 ((s.op.length + 1 : Nat) : Int))) { s with op := s.op ++ [⟨k, 0, 0⟩] } := by
  have hz := h.size
  have g : ∀ j, j ≠ 24 → (j < s.op.length * 3 ∨ s.op.length * 3 + 2 < j) → ((((c.setIfInBounds (s.op.length * 3) (.int .i64 (k : Int))).setIfInBounds (s.op.length * 3 + 1) (.int .i64 0)).setIfInBounds (s.op.length * 3 + 2) (.int .i64 0)).setIfInBounds 24 (.int .i64 ((s.op.length + 1 : Nat) : Int)))[j]? = c[j]? := fun j hj hk => by
    rw [Array.getElem?_setIfInBounds_ne (fun e => hj e.symm), Array.getElem?_setIfInBounds_ne (by omega), Array.getElem?_setIfInBounds_ne (by omega), Array.getElem?_setIfInBounds_ne (by omega)]
  refine ⟨by simpa using hz, AllNum.other (AllNum.set (AllNum.set (AllNum.set h.all _ _) _ _) _ _) _ _ (by omega), fun j hj => ?_, by rw [get_set (by simp; omega), if_pos rfl]; simp, fun j hj => by have := h.hbr; dsimp only at hj ⊢; rw [g _ (by omega) (by omega)]; exact h.br j hj, (g _ (by omega) (by omega)).trans h.nest, (g _ (by omega) (by omega)).trans h.para, (g _ (by omega) (by omega)).trans h.ah, by simp; omega, h.hbr⟩
  dsimp only at hj ⊢
  rw [List.length_append, List.length_singleton] at hj
  rcases Nat.lt_or_ge j s.op.length with hl | hl
  · rw [g _ (by omega) (by omega), g _ (by omega) (by omega), g _ (by omega) (by omega), List.getElem_append_left hl]
    exact h.op j hl
  · obtain rfl : j = s.op.length := by omega
    refine ⟨?_, ?_, ?_⟩
    · rw [Array.getElem?_setIfInBounds_ne (by omega), Array.getElem?_setIfInBounds_ne (by omega), Array.getElem?_setIfInBounds_ne (by omega), get_set (by omega), if_pos rfl]
      simp
    · rw [Array.getElem?_setIfInBounds_ne (by omega), Array.getElem?_setIfInBounds_ne (by omega), get_set (by simp; omega), if_pos rfl]
      simp
    · rw [Array.getElem?_setIfInBounds_ne (by omega), get_set (by simp; omega), if_pos rfl]
      simp
theorem mapTop_len (f : Lv → Lv) (l : List Lv) : (mapTop f l).length = l.length := by
  unfold mapTop
  cases h : l.getLast? with
  | none => rw [List.getLast?_eq_none_iff.1 h]; rfl
  | some x =>
    have : l ≠ [] := by intro e; rw [e] at h; cases h
    have := List.length_pos_iff.2 this
    simp
    omega
theorem mapTop_at (f : Lv → Lv) {l : List Lv} {m : Nat} (hm : l.length = m + 1) (j : Nat) (hj : j < (mapTop f l).length) : (mapTop f l)[j] = if j = m then f (l[m]) else l[j]'(by rw [mapTop_len] at hj; exact hj) := by
  have hx : l.getLast? = some l[m] := by rw [List.getLast?_eq_getElem?, show l.length - 1 = m by omega]; exact List.getElem?_eq_getElem (by omega)
  have hj' := hj
  rw [mapTop_len] at hj'
  have e : mapTop f l = l.dropLast ++ [f l[m]] := by unfold mapTop; rw [hx]; rfl
  have hd : l.dropLast.length = m := by rw [List.length_dropLast]; omega
  simp only [e]
  by_cases ej : j = m
  · subst ej
    rw [if_pos rfl, List.getElem_append_right (by omega)]
    simp
  · rw [if_neg ej, List.getElem_append_left (by omega), List.getElem_dropLast]
theorem mapTop_nil (f : Lv → Lv) {l : List Lv} (h : l.length = 0) : mapTop f l = l := by rw [List.eq_nil_of_length_eq_zero h]; rfl
theorem CurIs.cellUp (h : CurIs c s) (m : Nat) (hm : s.op.length = m + 1) : CurIs (c.setIfInBounds (m * 3 + 2) (.int .i64 ((s.op[m].cells + 1 : Nat) : Int))) { s with op := mapTop (fun l => { l with cells := l.cells + 1 }) s.op } := by
  have hz := h.size
  have hop := h.hop
  have g : ∀ j, j ≠ m * 3 + 2 → (c.setIfInBounds (m * 3 + 2) (.int .i64 ((s.op[m].cells + 1 : Nat) : Int)))[j]? = c[j]? := fun j hj => Array.getElem?_setIfInBounds_ne (fun e => hj e.symm)
  refine ⟨by simpa using hz, AllNum.set h.all _ _, fun j hj => ?_, by dsimp only; rw [mapTop_len]; exact (g _ (by omega)).trans h.depth, fun j hj => by have := h.hbr; dsimp only at hj ⊢; rw [g _ (by omega)]; exact h.br j hj, (g _ (by omega)).trans h.nest, (g _ (by omega)).trans h.para, (g _ (by omega)).trans h.ah, by dsimp only; rw [mapTop_len]; exact hop, h.hbr⟩
  dsimp only at hj ⊢
  rw [mapTop_at _ hm j hj]
  rw [mapTop_len] at hj
  by_cases ej : j = m
  · subst ej
    rw [if_pos rfl]
    obtain ⟨a, b, d⟩ := h.op j hj
    refine ⟨?_, ?_, ?_⟩
    · rw [g _ (by omega)]; exact a
    · rw [g _ (by omega)]; exact b
    · rw [get_set (by omega), if_pos rfl]
  · rw [if_neg ej, g _ (by omega), g _ (by omega), g _ (by omega)]
    exact h.op j hj
theorem CurIs.partUp (h : CurIs c s) (m : Nat) (hm : s.op.length = m + 1) : CurIs ((c.setIfInBounds (m * 3 + 1) (.int .i64 ((s.op[m].parts + 1 : Nat) : Int))).setIfInBounds (m * 3 + 2) (.int .i64 0)) { s with op := mapTop (fun l => { l with parts := l.parts + 1, cells := 0 }) s.op } := by
  have hz := h.size
  have hop := h.hop
  have g : ∀ j, j ≠ m * 3 + 1 → j ≠ m * 3 + 2 → ((c.setIfInBounds (m * 3 + 1) (.int .i64 ((s.op[m].parts + 1 : Nat) : Int))).setIfInBounds (m * 3 + 2) (.int .i64 0))[j]? = c[j]? := fun j hj hk => by rw [Array.getElem?_setIfInBounds_ne (fun e => hk e.symm), Array.getElem?_setIfInBounds_ne (fun e => hj e.symm)]
  refine ⟨by simpa using hz, AllNum.set (AllNum.set h.all _ _) _ _, fun j hj => ?_, by dsimp only; rw [mapTop_len]; exact (g _ (by omega) (by omega)).trans h.depth, fun j hj => by have := h.hbr; dsimp only at hj ⊢; rw [g _ (by omega) (by omega)]; exact h.br j hj, (g _ (by omega) (by omega)).trans h.nest, (g _ (by omega) (by omega)).trans h.para, (g _ (by omega) (by omega)).trans h.ah, by dsimp only; rw [mapTop_len]; exact hop, h.hbr⟩
  dsimp only at hj ⊢
  rw [mapTop_at _ hm j hj]
  rw [mapTop_len] at hj
  by_cases ej : j = m
  · subst ej
    rw [if_pos rfl]
    obtain ⟨a, b, d⟩ := h.op j hj
    refine ⟨?_, ?_, ?_⟩
    · rw [g _ (by omega) (by omega)]; exact a
    · rw [Array.getElem?_setIfInBounds_ne (by omega), get_set (by omega), if_pos rfl]
    · rw [get_set (by simp; omega), if_pos rfl]; rfl
  · rw [if_neg ej, g _ (by omega) (by omega), g _ (by omega) (by omega), g _ (by omega) (by omega)]
    exact h.op j hj
end
def oprVal (x : Opr) (wv : Value) : Value := .agg #[.int .i64 x.k, .int .i64 x.n, .string x.t, wv]
def TakeIs (M : Nat) (w : World) (s : Wk) (x : Opr) (e : Ending) (w' : World) : Prop := e = .returned (.tuple #[]) ∧ WkIs M w' (takeS s x) ∧ Below M w w'
end Go.Proofs.YtjohhahfpgfjdaaGreatDoor.Ir
end
section
namespace Go.Proofs.YtjohhahfpgfjdaaGreatDoor.Ir
open Go.RowKit Go.Maps Go.Proofs.YtjohhahfpgfjdaaGreatDoor
set_option linter.unusedVariables false

set_option maxRecDepth 100000 in
set_option maxHeartbeats 2000000 in
theorem take_br2 (M : Nat) (s : Wk) (n : Int) (t : ByteArray) (ws : List Int) (pw : Option Addr) (cw : Nat) (w : World) (h : WkIs M w s) (hb : s.br.length < 16) : Calls Tryz.prog 51 #[.pointer (some ⟨M, 0, none⟩), .agg #[.int .i64 2, .int .i64 n, .string t, .slice pw ws.length cw]] w (TakeIs M w s ⟨2, n, t, ws⟩) := by
  obtain ⟨c0, c1, c2, c3⟩ := h.cells
  obtain ⟨b8, b16⟩ := h.bounds
  have hL := h.lt
  have HL := Lib.hid hL
  obtain ⟨c, hc, hs⟩ := h
  have HC := Lib.hid (show CurAt M w c from hc)
  have HS := Lib.hid hs
  have f43 : w.frozen? ⟨M, 43, none⟩ = false := HC.out.free 43
  obtain ⟨m, hm⟩ : ∃ m, s.br.length = m := ⟨_, rfl⟩
  have HX := Lib.hid ((hs.pushBr 2 hb).setAh 2)
  rw [hm, Int.natCast_succ] at HX
  rw [hm] at c1 hb b16
  have fb : w.frozen? ⟨M, 25 + m, none⟩ = false := HC.out.free _
  obtain ⟨y, hy⟩ : ∃ y, c[25 + m]? = some y := ⟨_, Array.getElem?_eq_getElem (by have := hs.size; omega)⟩
  have eb : w.cell? ⟨M, 25 + m, none⟩ = some y := by rw [cell_of_row _ _ _ _ _ _ hc]; exact hy
  clear hy
  have f41 : w.frozen? ⟨M, 41, none⟩ = false := HC.out.free 41
  have m16 : (m : Int) < 16 := by omega
  have wr : wrap64 ((m : Int) + 1) = ((m + 1 : Nat) : Int) := by unfold wrap64; omega
  clear hs hc
  unfold TakeIs takeS
  rw [if_pos (by simp)]
  go_enter Tryz.func51, Tryz.ntmps51
  go_wp2_with fail
  go_region
  go_wp2_with fail
  go_end0
  exact ⟨rfl, ⟨_, ((((HC.out.set _ _).set _ _).set _ _).alloc _).drew, HX.out⟩, (((((Below.refl M w).setCell (p := ⟨M, _, none⟩) (Nat.le_refl M) _).setCell (p := ⟨M, _, none⟩) (Nat.le_refl M) _).setCell (p := ⟨M, _, none⟩) (Nat.le_refl M) _).alloc (szM4 HL.out) _).drew⟩

set_option maxRecDepth 100000 in
set_option maxHeartbeats 2000000 in
theorem take_br3 (M : Nat) (s : Wk) (n : Int) (t : ByteArray) (ws : List Int) (pw : Option Addr) (cw : Nat) (w : World) (h : WkIs M w s) (hb : s.br.length < 16) : Calls Tryz.prog 51 #[.pointer (some ⟨M, 0, none⟩), .agg #[.int .i64 3, .int .i64 n, .string t, .slice pw ws.length cw]] w (TakeIs M w s ⟨3, n, t, ws⟩) := by
  obtain ⟨c0, c1, c2, c3⟩ := h.cells
  obtain ⟨b8, b16⟩ := h.bounds
  have hL := h.lt
  have HL := Lib.hid hL
  obtain ⟨c, hc, hs⟩ := h
  have HC := Lib.hid (show CurAt M w c from hc)
  have HS := Lib.hid hs
  have f43 : w.frozen? ⟨M, 43, none⟩ = false := HC.out.free 43
  obtain ⟨m, hm⟩ : ∃ m, s.br.length = m := ⟨_, rfl⟩
  have HX := Lib.hid ((hs.pushBr 3 hb).setAh 3)
  rw [hm, Int.natCast_succ] at HX
  rw [hm] at c1 hb b16
  have fb : w.frozen? ⟨M, 25 + m, none⟩ = false := HC.out.free _
  obtain ⟨y, hy⟩ : ∃ y, c[25 + m]? = some y := ⟨_, Array.getElem?_eq_getElem (by have := hs.size; omega)⟩
  have eb : w.cell? ⟨M, 25 + m, none⟩ = some y := by rw [cell_of_row _ _ _ _ _ _ hc]; exact hy
  clear hy
  have f41 : w.frozen? ⟨M, 41, none⟩ = false := HC.out.free 41
  have m16 : (m : Int) < 16 := by omega
  have wr : wrap64 ((m : Int) + 1) = ((m + 1 : Nat) : Int) := by unfold wrap64; omega
  clear hs hc
  unfold TakeIs takeS
  rw [if_pos (by simp)]
  go_enter Tryz.func51, Tryz.ntmps51
  go_wp2_with fail
  go_region
  go_wp2_with fail
  go_end0
  exact ⟨rfl, ⟨_, ((((HC.out.set _ _).set _ _).set _ _).alloc _).drew, HX.out⟩, (((((Below.refl M w).setCell (p := ⟨M, _, none⟩) (Nat.le_refl M) _).setCell (p := ⟨M, _, none⟩) (Nat.le_refl M) _).setCell (p := ⟨M, _, none⟩) (Nat.le_refl M) _).alloc (szM4 HL.out) _).drew⟩
end Go.Proofs.YtjohhahfpgfjdaaGreatDoor.Ir
end
section
namespace Go.Proofs.YtjohhahfpgfjdaaGreatDoor.Ir
open Go.RowKit Go.Maps Go.Proofs.YtjohhahfpgfjdaaGreatDoor
set_option linter.unusedVariables false

set_option maxRecDepth 100000 in
set_option maxHeartbeats 2000000 in
theorem take_br4 (M : Nat) (s : Wk) (n : Int) (t : ByteArray) (ws : List Int) (pw : Option Addr) (cw : Nat) (w : World) (h : WkIs M w s) (hb : s.br.length < 16) : Calls Tryz.prog 51 #[.pointer (some ⟨M, 0, none⟩), .agg #[.int .i64 4, .int .i64 n, .string t, .slice pw ws.length cw]] w (TakeIs M w s ⟨4, n, t, ws⟩) := by
  obtain ⟨c0, c1, c2, c3⟩ := h.cells
  obtain ⟨b8, b16⟩ := h.bounds
  have hL := h.lt
  have HL := Lib.hid hL
  obtain ⟨c, hc, hs⟩ := h
  have HC := Lib.hid (show CurAt M w c from hc)
  have HS := Lib.hid hs
  have f43 : w.frozen? ⟨M, 43, none⟩ = false := HC.out.free 43
  obtain ⟨m, hm⟩ : ∃ m, s.br.length = m := ⟨_, rfl⟩
  have HX := Lib.hid ((hs.pushBr 4 hb).setAh 4)
  rw [hm, Int.natCast_succ] at HX
  rw [hm] at c1 hb b16
  have fb : w.frozen? ⟨M, 25 + m, none⟩ = false := HC.out.free _
  obtain ⟨y, hy⟩ : ∃ y, c[25 + m]? = some y := ⟨_, Array.getElem?_eq_getElem (by have := hs.size; omega)⟩
  have eb : w.cell? ⟨M, 25 + m, none⟩ = some y := by rw [cell_of_row _ _ _ _ _ _ hc]; exact hy
  clear hy
  have f41 : w.frozen? ⟨M, 41, none⟩ = false := HC.out.free 41
  have m16 : (m : Int) < 16 := by omega
  have wr : wrap64 ((m : Int) + 1) = ((m + 1 : Nat) : Int) := by unfold wrap64; omega
  clear hs hc
  unfold TakeIs takeS
  rw [if_pos (by simp)]
  go_enter Tryz.func51, Tryz.ntmps51
  go_wp2_with fail
  go_region
  go_wp2_with fail
  go_end0
  exact ⟨rfl, ⟨_, ((((HC.out.set _ _).set _ _).set _ _).alloc _).drew, HX.out⟩, (((((Below.refl M w).setCell (p := ⟨M, _, none⟩) (Nat.le_refl M) _).setCell (p := ⟨M, _, none⟩) (Nat.le_refl M) _).setCell (p := ⟨M, _, none⟩) (Nat.le_refl M) _).alloc (szM4 HL.out) _).drew⟩

set_option maxRecDepth 100000 in
set_option maxHeartbeats 2000000 in
theorem take_close (M : Nat) (s : Wk) (n : Int) (t : ByteArray) (ws : List Int) (pw : Option Addr) (cw : Nat) (w : World) (h : WkIs M w s) (hb : 0 < s.br.length) : Calls Tryz.prog 51 #[.pointer (some ⟨M, 0, none⟩), .agg #[.int .i64 5, .int .i64 n, .string t, .slice pw ws.length cw]] w (TakeIs M w s ⟨5, n, t, ws⟩) := by
  obtain ⟨c0, c1, c2, c3⟩ := h.cells
  obtain ⟨b8, b16⟩ := h.bounds
  have hL := h.lt
  have HL := Lib.hid hL
  obtain ⟨c, hc, hs⟩ := h
  have HC := Lib.hid (show CurAt M w c from hc)
  have HS := Lib.hid hs
  have f43 : w.frozen? ⟨M, 43, none⟩ = false := HC.out.free 43
  obtain ⟨m, hm⟩ : ∃ m, s.br.length = m + 1 := ⟨s.br.length - 1, by omega⟩
  have HX := Lib.hid ((hs.popBr m hm).setAh 5)
  rw [hm] at c1 b16
  have f41 : w.frozen? ⟨M, 41, none⟩ = false := HC.out.free 41
  have wr : wrap64 (((m + 1 : Nat) : Int) - 1) = (m : Int) := by unfold wrap64; omega
  clear hs hc
  unfold TakeIs takeS
  rw [if_neg (by simp), if_pos (by simp)]
  go_enter Tryz.func51, Tryz.ntmps51
  go_wp2_with fail
  go_end0
  exact ⟨rfl, ⟨_, ((HC.out.set _ _).set _ _).alloc _, HX.out⟩, (((Below.refl M w).setCell (p := ⟨M, _, none⟩) (Nat.le_refl M) _).setCell (p := ⟨M, _, none⟩) (Nat.le_refl M) _).alloc (szM2 HL.out) _⟩

set_option maxRecDepth 100000 in
set_option maxHeartbeats 2000000 in
theorem take_para0 (M : Nat) (s : Wk) (n : Int) (t : ByteArray) (ws : List Int) (pw : Option Addr) (cw : Nat) (w : World) (h : WkIs M w s) (hb : s.op.length = 0) : Calls Tryz.prog 51 #[.pointer (some ⟨M, 0, none⟩), .agg #[.int .i64 8, .int .i64 n, .string t, .slice pw ws.length cw]] w (TakeIs M w s ⟨8, n, t, ws⟩) := by
  obtain ⟨c0, c1, c2, c3⟩ := h.cells
  obtain ⟨b8, b16⟩ := h.bounds
  have hL := h.lt
  have HL := Lib.hid hL
  obtain ⟨c, hc, hs⟩ := h
  have HC := Lib.hid (show CurAt M w c from hc)
  have HS := Lib.hid hs
  have f43 : w.frozen? ⟨M, 43, none⟩ = false := HC.out.free 43
  have HX := Lib.hid ((hs.setPara true).setAh 8)
  have HE := Lib.hid hb
  rw [hb] at c0
  have f42 : w.frozen? ⟨M, 42, none⟩ = false := HC.out.free 42
  clear hs hc
  unfold TakeIs takeS
  rw [if_neg (by simp), if_neg (by simp), if_pos (by simp)]
  go_enter Tryz.func51, Tryz.ntmps51
  go_wp2_with fail
  go_end0
  exact ⟨rfl, ⟨_, ((HC.out.set _ _).set _ _).alloc _, by rw [mapTop_nil _ HE.out]; exact HX.out⟩, (((Below.refl M w).setCell (p := ⟨M, _, none⟩) (Nat.le_refl M) _).setCell (p := ⟨M, _, none⟩) (Nat.le_refl M) _).alloc (szM2 HL.out) _⟩

set_option maxRecDepth 100000 in
set_option maxHeartbeats 2000000 in
theorem take_done (M : Nat) (s : Wk) (n : Int) (t : ByteArray) (ws : List Int) (pw : Option Addr) (cw : Nat) (w : World) (h : WkIs M w s) : Calls Tryz.prog 51 #[.pointer (some ⟨M, 0, none⟩), .agg #[.int .i64 9, .int .i64 n, .string t, .slice pw ws.length cw]] w (TakeIs M w s ⟨9, n, t, ws⟩) := by
  obtain ⟨c0, c1, c2, c3⟩ := h.cells
  obtain ⟨b8, b16⟩ := h.bounds
  have hL := h.lt
  have HL := Lib.hid hL
  obtain ⟨c, hc, hs⟩ := h
  have HC := Lib.hid (show CurAt M w c from hc)
  have HS := Lib.hid hs
  have f43 : w.frozen? ⟨M, 43, none⟩ = false := HC.out.free 43
  have HX := Lib.hid ((hs.setPara false).setAh 9)
  have f42 : w.frozen? ⟨M, 42, none⟩ = false := HC.out.free 42
  clear hs hc
  unfold TakeIs takeS
  rw [if_neg (by simp), if_neg (by simp), if_neg (by simp), if_pos (by simp)]
  go_enter Tryz.func51, Tryz.ntmps51
  go_wp2_with fail
  go_end0
  exact ⟨rfl, ⟨_, ((HC.out.set _ _).set _ _).alloc _, HX.out⟩, (((Below.refl M w).setCell (p := ⟨M, _, none⟩) (Nat.le_refl M) _).setCell (p := ⟨M, _, none⟩) (Nat.le_refl M) _).alloc (szM2 HL.out) _⟩

set_option maxRecDepth 100000 in
set_option maxHeartbeats 2000000 in
theorem take_end (M : Nat) (s : Wk) (n : Int) (t : ByteArray) (ws : List Int) (pw : Option Addr) (cw : Nat) (w : World) (h : WkIs M w s) (hb : 0 < s.op.length) : Calls Tryz.prog 51 #[.pointer (some ⟨M, 0, none⟩), .agg #[.int .i64 14, .int .i64 n, .string t, .slice pw ws.length cw]] w (TakeIs M w s ⟨14, n, t, ws⟩) := by
  obtain ⟨c0, c1, c2, c3⟩ := h.cells
  obtain ⟨b8, b16⟩ := h.bounds
  have hL := h.lt
  have HL := Lib.hid hL
  obtain ⟨c, hc, hs⟩ := h
  have HC := Lib.hid (show CurAt M w c from hc)
  have HS := Lib.hid hs
  have f43 : w.frozen? ⟨M, 43, none⟩ = false := HC.out.free 43
  obtain ⟨m, hm⟩ : ∃ m, s.op.length = m + 1 := ⟨s.op.length - 1, by omega⟩
  have HX := Lib.hid ((hs.popOp m hm).setAh 14)
  rw [hm] at c0 b8
  have f24 : w.frozen? ⟨M, 24, none⟩ = false := HC.out.free 24
  have wr : wrap64 (((m + 1 : Nat) : Int) - 1) = (m : Int) := by unfold wrap64; omega
  clear hs hc
  unfold TakeIs takeS
  rw [if_neg (by simp), if_neg (by simp), if_neg (by simp), if_neg (by simp), if_neg (by simp), if_neg (by simp), if_pos (by simp)]
  go_enter Tryz.func51, Tryz.ntmps51
  go_wp2_with fail
  go_end0
  exact ⟨rfl, ⟨_, ((HC.out.set _ _).set _ _).alloc _, HX.out⟩, (((Below.refl M w).setCell (p := ⟨M, _, none⟩) (Nat.le_refl M) _).setCell (p := ⟨M, _, none⟩) (Nat.le_refl M) _).alloc (szM2 HL.out) _⟩

set_option maxRecDepth 100000 in
set_option maxHeartbeats 2000000 in
theorem take_x1 (M : Nat) (s : Wk) (n : Int) (t : ByteArray) (ws : List Int) (pw : Option Addr) (cw : Nat) (w : World) (h : WkIs M w s) : Calls Tryz.prog 51 #[.pointer (some ⟨M, 0, none⟩), .agg #[.int .i64 1, .int .i64 n, .string t, .slice pw ws.length cw]] w (TakeIs M w s ⟨1, n, t, ws⟩) := by
  obtain ⟨c0, c1, c2, c3⟩ := h.cells
  obtain ⟨b8, b16⟩ := h.bounds
  have hL := h.lt
  have HL := Lib.hid hL
  obtain ⟨c, hc, hs⟩ := h
  have HC := Lib.hid (show CurAt M w c from hc)
  have HS := Lib.hid hs
  have f43 : w.frozen? ⟨M, 43, none⟩ = false := HC.out.free 43
  have HX := Lib.hid (hs.setAh 1)
  clear hs hc
  unfold TakeIs takeS
  rw [if_neg (by simp), if_neg (by simp), if_neg (by simp), if_neg (by simp), if_neg (by simp), if_neg (by simp), if_neg (by simp)]
  go_enter Tryz.func51, Tryz.ntmps51
  go_wp2_with fail
  go_end0
  exact ⟨rfl, ⟨_, (HC.out.set _ _).alloc _, HX.out⟩, ((Below.refl M w).setCell (p := ⟨M, _, none⟩) (Nat.le_refl M) _).alloc (szM HL.out) _⟩

set_option maxRecDepth 100000 in
set_option maxHeartbeats 2000000 in
theorem take_x6 (M : Nat) (s : Wk) (n : Int) (t : ByteArray) (ws : List Int) (pw : Option Addr) (cw : Nat) (w : World) (h : WkIs M w s) : Calls Tryz.prog 51 #[.pointer (some ⟨M, 0, none⟩), .agg #[.int .i64 6, .int .i64 n, .string t, .slice pw ws.length cw]] w (TakeIs M w s ⟨6, n, t, ws⟩) := by
  obtain ⟨c0, c1, c2, c3⟩ := h.cells
  obtain ⟨b8, b16⟩ := h.bounds
  have hL := h.lt
  have HL := Lib.hid hL
  obtain ⟨c, hc, hs⟩ := h
  have HC := Lib.hid (show CurAt M w c from hc)
  have HS := Lib.hid hs
  have f43 : w.frozen? ⟨M, 43, none⟩ = false := HC.out.free 43
  have HX := Lib.hid (hs.setAh 6)
  clear hs hc
  unfold TakeIs takeS
  rw [if_neg (by simp), if_neg (by simp), if_neg (by simp), if_neg (by simp), if_neg (by simp), if_neg (by simp), if_neg (by simp)]
  go_enter Tryz.func51, Tryz.ntmps51
  go_wp2_with fail
  go_end0
  exact ⟨rfl, ⟨_, (HC.out.set _ _).alloc _, HX.out⟩, ((Below.refl M w).setCell (p := ⟨M, _, none⟩) (Nat.le_refl M) _).alloc (szM HL.out) _⟩

set_option maxRecDepth 100000 in
set_option maxHeartbeats 2000000 in
theorem take_x7 (M : Nat) (s : Wk) (n : Int) (t : ByteArray) (ws : List Int) (pw : Option Addr) (cw : Nat) (w : World) (h : WkIs M w s) : Calls Tryz.prog 51 #[.pointer (some ⟨M, 0, none⟩), .agg #[.int .i64 7, .int .i64 n, .string t, .slice pw ws.length cw]] w (TakeIs M w s ⟨7, n, t, ws⟩) := by
  obtain ⟨c0, c1, c2, c3⟩ := h.cells
  obtain ⟨b8, b16⟩ := h.bounds
  have hL := h.lt
  have HL := Lib.hid hL
  obtain ⟨c, hc, hs⟩ := h
  have HC := Lib.hid (show CurAt M w c from hc)
  have HS := Lib.hid hs
  have f43 : w.frozen? ⟨M, 43, none⟩ = false := HC.out.free 43
  have HX := Lib.hid (hs.setAh 7)
  clear hs hc
  unfold TakeIs takeS
  rw [if_neg (by simp), if_neg (by simp), if_neg (by simp), if_neg (by simp), if_neg (by simp), if_neg (by simp), if_neg (by simp)]
  go_enter Tryz.func51, Tryz.ntmps51
  go_wp2_with fail
  go_end0
  exact ⟨rfl, ⟨_, (HC.out.set _ _).alloc _, HX.out⟩, ((Below.refl M w).setCell (p := ⟨M, _, none⟩) (Nat.le_refl M) _).alloc (szM HL.out) _⟩
end Go.Proofs.YtjohhahfpgfjdaaGreatDoor.Ir
end
section
namespace Go.Proofs.YtjohhahfpgfjdaaGreatDoor.Ir
open Go.RowKit Go.Maps Go.Proofs.YtjohhahfpgfjdaaGreatDoor
set_option linter.unusedVariables false

set_option maxRecDepth 100000 in
set_option maxHeartbeats 2000000 in
theorem take_para1 (M : Nat) (s : Wk) (n : Int) (t : ByteArray) (ws : List Int) (pw : Option Addr) (cw : Nat) (w : World) (h : WkIs M w s) (hb : 0 < s.op.length) (hbd : ∀ l ∈ s.op, l.parts ≤ 65536 ∧ l.cells ≤ 65536) : Calls Tryz.prog 51 #[.pointer (some ⟨M, 0, none⟩), .agg #[.int .i64 8, .int .i64 n, .string t, .slice pw ws.length cw]] w (TakeIs M w s ⟨8, n, t, ws⟩) := by
  obtain ⟨c0, c1, c2, c3⟩ := h.cells
  obtain ⟨b8, b16⟩ := h.bounds
  have hL := h.lt
  have HL := Lib.hid hL
  obtain ⟨c, hc, hs⟩ := h
  have HC := Lib.hid (show CurAt M w c from hc)
  have HS := Lib.hid hs
  have f43 : w.frozen? ⟨M, 43, none⟩ = false := HC.out.free 43
  obtain ⟨m, hm⟩ : ∃ m, s.op.length = m + 1 := ⟨s.op.length - 1, by omega⟩
  have HX := Lib.hid (((hs.setPara true).cellUp m hm).setAh 8)
  obtain ⟨d0, d1, d2⟩ := (show WkIs M w s from ⟨c, hc, hs⟩).lv (j := m) (by omega)
  have hcl := (hbd _ (List.getElem_mem (show m < s.op.length by omega))).2
  obtain ⟨z, hz⟩ : ∃ z, s.op[m].cells = z := ⟨_, rfl⟩
  dsimp only at HX
  rw [hz, Int.natCast_succ] at HX
  rw [hz] at d2 hcl
  rw [hm] at c0 b8
  have f42 : w.frozen? ⟨M, 42, none⟩ = false := HC.out.free 42
  have fc : w.frozen? ⟨M, m * 3 + 2, none⟩ = false := HC.out.free _
  have w1 : wrap64 (((m + 1 : Nat) : Int) - 1) = (m : Int) := by unfold wrap64; omega
  have w2 : ((m + 1 : Nat) : Int) - 1 = (m : Int) := by omega
  have w3 : wrap64 ((z : Int) + 1) = ((z + 1 : Nat) : Int) := by unfold wrap64; omega
  have m8 : (m : Int) < 8 := by omega
  have m8n : m < 8 := by omega
  have m0 : (0 : Int) < ((m + 1 : Nat) : Int) := by omega
  clear hs hc
  unfold TakeIs takeS
  rw [if_neg (by simp), if_neg (by simp), if_pos (by simp)]
  go_enter Tryz.func51, Tryz.ntmps51
  go_wp2_with fail
  go_region
  go_wp2_with fail
  go_end0
  exact ⟨rfl, ⟨_, ((((HC.out.set _ _).set _ _).set _ _).alloc _).drew, HX.out⟩, (((((Below.refl M w).setCell (p := ⟨M, _, none⟩) (Nat.le_refl M) _).setCell (p := ⟨M, _, none⟩) (Nat.le_refl M) _).setCell (p := ⟨M, _, none⟩) (Nat.le_refl M) _).alloc (szM4 HL.out) _).drew⟩

set_option maxRecDepth 100000 in
set_option maxHeartbeats 2000000 in
theorem take_list10 (M : Nat) (s : Wk) (n : Int) (t : ByteArray) (ws : List Int) (pw : Option Addr) (cw : Nat) (w : World) (h : WkIs M w s) (hb : s.op.length < 8) : Calls Tryz.prog 51 #[.pointer (some ⟨M, 0, none⟩), .agg #[.int .i64 10, .int .i64 n, .string t, .slice pw ws.length cw]] w (TakeIs M w s ⟨10, n, t, ws⟩) := by
  obtain ⟨c0, c1, c2, c3⟩ := h.cells
  obtain ⟨b8, b16⟩ := h.bounds
  have hL := h.lt
  have HL := Lib.hid hL
  obtain ⟨c, hc, hs⟩ := h
  have HC := Lib.hid (show CurAt M w c from hc)
  have HS := Lib.hid hs
  have f43 : w.frozen? ⟨M, 43, none⟩ = false := HC.out.free 43
  obtain ⟨m, hm⟩ : ∃ m, s.op.length = m := ⟨_, rfl⟩
  have HX := Lib.hid ((hs.pushOp ws.length hb).setAh 10)
  rw [hm, Int.natCast_succ] at HX
  rw [hm] at c0 hb b8
  obtain ⟨q, hq⟩ : ∃ q, ws.length = q := ⟨_, rfl⟩
  rw [hq] at HX ⊢
  have f0 : w.frozen? ⟨M, m * 3, none⟩ = false := HC.out.free _
  have f1 : w.frozen? ⟨M, m * 3 + 1, none⟩ = false := HC.out.free _
  have f2 : w.frozen? ⟨M, m * 3 + 2, none⟩ = false := HC.out.free _
  have f24 : w.frozen? ⟨M, 24, none⟩ = false := HC.out.free 24
  have m8 : (m : Int) < 8 := by omega
  obtain ⟨y0, hy0⟩ := hs.all (m * 3) (by omega)
  obtain ⟨y1, hy1⟩ := hs.all (m * 3 + 1) (by omega)
  obtain ⟨y2, hy2⟩ := hs.all (m * 3 + 2) (by omega)
  have e0 : w.cell? ⟨M, m * 3, none⟩ = some (.int .i64 y0) := by rw [cell_of_row _ _ _ _ _ _ hc]; exact hy0
  have e1 : w.cell? ⟨M, m * 3 + 1, none⟩ = some (.int .i64 y1) := by rw [cell_of_row _ _ _ _ _ _ hc]; exact hy1
  have e2 : w.cell? ⟨M, m * 3 + 2, none⟩ = some (.int .i64 y2) := by rw [cell_of_row _ _ _ _ _ _ hc]; exact hy2
  have wr : wrap64 ((m : Int) + 1) = ((m + 1 : Nat) : Int) := by unfold wrap64; omega
  have HM := Lib.hid hm
  have HQ := Lib.hid hq
  clear hq hy0 hy1 hy2 hm
  clear hs hc
  unfold TakeIs takeS
  rw [if_neg (by simp), if_neg (by simp), if_neg (by simp), if_neg (by simp), if_pos (by simp)]
  go_enter Tryz.func51, Tryz.ntmps51
  go_wp2_with fail
  go_region
  go_wp2_with fail
  go_end0
  have hq := HQ.out
  subst hq
  exact ⟨rfl, ⟨_, ((((((HC.out.set _ _).set _ _).set _ _).set _ _).set _ _).alloc _).drew, HX.out⟩, (((((((Below.refl M w).setCell (p := ⟨M, _, none⟩) (Nat.le_refl M) _).setCell (p := ⟨M, _, none⟩) (Nat.le_refl M) _).setCell (p := ⟨M, _, none⟩) (Nat.le_refl M) _).setCell (p := ⟨M, _, none⟩) (Nat.le_refl M) _).setCell (p := ⟨M, _, none⟩) (Nat.le_refl M) _).alloc (szM6 HL.out) _).drew⟩

set_option maxRecDepth 100000 in
set_option maxHeartbeats 2000000 in
theorem take_list12 (M : Nat) (s : Wk) (n : Int) (t : ByteArray) (ws : List Int) (pw : Option Addr) (cw : Nat) (w : World) (h : WkIs M w s) (hb : s.op.length < 8) : Calls Tryz.prog 51 #[.pointer (some ⟨M, 0, none⟩), .agg #[.int .i64 12, .int .i64 n, .string t, .slice pw ws.length cw]] w (TakeIs M w s ⟨12, n, t, ws⟩) := by
  obtain ⟨c0, c1, c2, c3⟩ := h.cells
  obtain ⟨b8, b16⟩ := h.bounds
  have hL := h.lt
  have HL := Lib.hid hL
  obtain ⟨c, hc, hs⟩ := h
  have HC := Lib.hid (show CurAt M w c from hc)
  have HS := Lib.hid hs
  have f43 : w.frozen? ⟨M, 43, none⟩ = false := HC.out.free 43
  obtain ⟨m, hm⟩ : ∃ m, s.op.length = m := ⟨_, rfl⟩
  have HX := Lib.hid ((hs.pushOp ws.length hb).setAh 12)
  rw [hm, Int.natCast_succ] at HX
  rw [hm] at c0 hb b8
  obtain ⟨q, hq⟩ : ∃ q, ws.length = q := ⟨_, rfl⟩
  rw [hq] at HX ⊢
  have f0 : w.frozen? ⟨M, m * 3, none⟩ = false := HC.out.free _
  have f1 : w.frozen? ⟨M, m * 3 + 1, none⟩ = false := HC.out.free _
  have f2 : w.frozen? ⟨M, m * 3 + 2, none⟩ = false := HC.out.free _
  have f24 : w.frozen? ⟨M, 24, none⟩ = false := HC.out.free 24
  have m8 : (m : Int) < 8 := by omega
  obtain ⟨y0, hy0⟩ := hs.all (m * 3) (by omega)
  obtain ⟨y1, hy1⟩ := hs.all (m * 3 + 1) (by omega)
  obtain ⟨y2, hy2⟩ := hs.all (m * 3 + 2) (by omega)
  have e0 : w.cell? ⟨M, m * 3, none⟩ = some (.int .i64 y0) := by rw [cell_of_row _ _ _ _ _ _ hc]; exact hy0
  have e1 : w.cell? ⟨M, m * 3 + 1, none⟩ = some (.int .i64 y1) := by rw [cell_of_row _ _ _ _ _ _ hc]; exact hy1
  have e2 : w.cell? ⟨M, m * 3 + 2, none⟩ = some (.int .i64 y2) := by rw [cell_of_row _ _ _ _ _ _ hc]; exact hy2
  have wr : wrap64 ((m : Int) + 1) = ((m + 1 : Nat) : Int) := by unfold wrap64; omega
  have HM := Lib.hid hm
  have HQ := Lib.hid hq
  clear hq hy0 hy1 hy2 hm
  clear hs hc
  unfold TakeIs takeS
  rw [if_neg (by simp), if_neg (by simp), if_neg (by simp), if_neg (by simp), if_pos (by simp)]
  go_enter Tryz.func51, Tryz.ntmps51
  go_wp2_with fail
  go_region
  go_wp2_with fail
  go_end0
  have hq := HQ.out
  subst hq
  exact ⟨rfl, ⟨_, ((((((HC.out.set _ _).set _ _).set _ _).set _ _).set _ _).alloc _).drew, HX.out⟩, (((((((Below.refl M w).setCell (p := ⟨M, _, none⟩) (Nat.le_refl M) _).setCell (p := ⟨M, _, none⟩) (Nat.le_refl M) _).setCell (p := ⟨M, _, none⟩) (Nat.le_refl M) _).setCell (p := ⟨M, _, none⟩) (Nat.le_refl M) _).setCell (p := ⟨M, _, none⟩) (Nat.le_refl M) _).alloc (szM6 HL.out) _).drew⟩
end Go.Proofs.YtjohhahfpgfjdaaGreatDoor.Ir
end
section
namespace Go.Proofs.YtjohhahfpgfjdaaGreatDoor.Ir
open Go.RowKit Go.Maps Go.Proofs.YtjohhahfpgfjdaaGreatDoor
set_option linter.unusedVariables false

set_option maxRecDepth 100000 in
set_option maxHeartbeats 2000000 in
theorem take_item11 (M : Nat) (s : Wk) (n : Int) (t : ByteArray) (ws : List Int) (pw : Option Addr) (cw : Nat) (w : World) (h : WkIs M w s) (hb : 0 < s.op.length) (hbd : ∀ l ∈ s.op, l.parts ≤ 65536 ∧ l.cells ≤ 65536) : Calls Tryz.prog 51 #[.pointer (some ⟨M, 0, none⟩), .agg #[.int .i64 11, .int .i64 n, .string t, .slice pw ws.length cw]] w (TakeIs M w s ⟨11, n, t, ws⟩) := by
  obtain ⟨c0, c1, c2, c3⟩ := h.cells
  obtain ⟨b8, b16⟩ := h.bounds
  have hL := h.lt
  have HL := Lib.hid hL
  obtain ⟨c, hc, hs⟩ := h
  have HC := Lib.hid (show CurAt M w c from hc)
  have HS := Lib.hid hs
  have f43 : w.frozen? ⟨M, 43, none⟩ = false := HC.out.free 43
  obtain ⟨m, hm⟩ : ∃ m, s.op.length = m + 1 := ⟨s.op.length - 1, by omega⟩
  have HX := Lib.hid ((hs.partUp m hm).setAh 11)
  obtain ⟨d0, d1, d2⟩ := (show WkIs M w s from ⟨c, hc, hs⟩).lv (j := m) (by omega)
  have hcl := (hbd _ (List.getElem_mem (show m < s.op.length by omega))).1
  obtain ⟨z, hz⟩ : ∃ z, s.op[m].parts = z := ⟨_, rfl⟩
  rw [hz, Int.natCast_succ] at HX
  rw [hz] at d1 hcl
  rw [hm] at c0 b8
  have fb : w.frozen? ⟨M, m * 3 + 1, none⟩ = false := HC.out.free _
  have fc : w.frozen? ⟨M, m * 3 + 2, none⟩ = false := HC.out.free _
  have w1 : wrap64 (((m + 1 : Nat) : Int) - 1) = (m : Int) := by unfold wrap64; omega
  have w2 : ((m + 1 : Nat) : Int) - 1 = (m : Int) := by omega
  have w3 : wrap64 ((z : Int) + 1) = ((z + 1 : Nat) : Int) := by unfold wrap64; omega
  have m8 : (m : Int) < 8 := by omega
  have m8n : m < 8 := by omega
  clear hs hc
  unfold TakeIs takeS
  rw [if_neg (by simp), if_neg (by simp), if_neg (by simp), if_neg (by simp), if_neg (by simp), if_pos (by simp)]
  go_enter Tryz.func51, Tryz.ntmps51
  go_wp2_with fail
  go_region
  go_wp2_with fail
  go_end0
  exact ⟨rfl, ⟨_, ((((HC.out.set _ _).set _ _).set _ _).alloc _).drew, HX.out⟩, (((((Below.refl M w).setCell (p := ⟨M, _, none⟩) (Nat.le_refl M) _).setCell (p := ⟨M, _, none⟩) (Nat.le_refl M) _).setCell (p := ⟨M, _, none⟩) (Nat.le_refl M) _).alloc (szM4 HL.out) _).drew⟩

set_option maxRecDepth 100000 in
set_option maxHeartbeats 2000000 in
theorem take_item13 (M : Nat) (s : Wk) (n : Int) (t : ByteArray) (ws : List Int) (pw : Option Addr) (cw : Nat) (w : World) (h : WkIs M w s) (hb : 0 < s.op.length) (hbd : ∀ l ∈ s.op, l.parts ≤ 65536 ∧ l.cells ≤ 65536) : Calls Tryz.prog 51 #[.pointer (some ⟨M, 0, none⟩), .agg #[.int .i64 13, .int .i64 n, .string t, .slice pw ws.length cw]] w (TakeIs M w s ⟨13, n, t, ws⟩) := by
  obtain ⟨c0, c1, c2, c3⟩ := h.cells
  obtain ⟨b8, b16⟩ := h.bounds
  have hL := h.lt
  have HL := Lib.hid hL
  obtain ⟨c, hc, hs⟩ := h
  have HC := Lib.hid (show CurAt M w c from hc)
  have HS := Lib.hid hs
  have f43 : w.frozen? ⟨M, 43, none⟩ = false := HC.out.free 43
  obtain ⟨m, hm⟩ : ∃ m, s.op.length = m + 1 := ⟨s.op.length - 1, by omega⟩
  have HX := Lib.hid ((hs.partUp m hm).setAh 13)
  obtain ⟨d0, d1, d2⟩ := (show WkIs M w s from ⟨c, hc, hs⟩).lv (j := m) (by omega)
  have hcl := (hbd _ (List.getElem_mem (show m < s.op.length by omega))).1
  obtain ⟨z, hz⟩ : ∃ z, s.op[m].parts = z := ⟨_, rfl⟩
  rw [hz, Int.natCast_succ] at HX
  rw [hz] at d1 hcl
  rw [hm] at c0 b8
  have fb : w.frozen? ⟨M, m * 3 + 1, none⟩ = false := HC.out.free _
  have fc : w.frozen? ⟨M, m * 3 + 2, none⟩ = false := HC.out.free _
  have w1 : wrap64 (((m + 1 : Nat) : Int) - 1) = (m : Int) := by unfold wrap64; omega
  have w2 : ((m + 1 : Nat) : Int) - 1 = (m : Int) := by omega
  have w3 : wrap64 ((z : Int) + 1) = ((z + 1 : Nat) : Int) := by unfold wrap64; omega
  have m8 : (m : Int) < 8 := by omega
  have m8n : m < 8 := by omega
  clear hs hc
  unfold TakeIs takeS
  rw [if_neg (by simp), if_neg (by simp), if_neg (by simp), if_neg (by simp), if_neg (by simp), if_pos (by simp)]
  go_enter Tryz.func51, Tryz.ntmps51
  go_wp2_with fail
  go_region
  go_wp2_with fail
  go_end0
  exact ⟨rfl, ⟨_, ((((HC.out.set _ _).set _ _).set _ _).alloc _).drew, HX.out⟩, (((((Below.refl M w).setCell (p := ⟨M, _, none⟩) (Nat.le_refl M) _).setCell (p := ⟨M, _, none⟩) (Nat.le_refl M) _).setCell (p := ⟨M, _, none⟩) (Nat.le_refl M) _).alloc (szM4 HL.out) _).drew⟩
end Go.Proofs.YtjohhahfpgfjdaaGreatDoor.Ir
end
section
namespace Go.Proofs.YtjohhahfpgfjdaaGreatDoor.Ir
open Go.RowKit Go.Maps Go.Proofs.YtjohhahfpgfjdaaGreatDoor
set_option linter.unusedVariables false
/-- What an operation asks of what is open, so that it can be taken. -/
structure TakeOk (s : Wk) (k : Int) : Prop where
  br : k = 2 ∨ k = 3 ∨ k = 4 → s.br.length < 16
  cl : k = 5 → 0 < s.br.length
  ls : k = 10 ∨ k = 12 → s.op.length < 8
  tp : k = 11 ∨ k = 13 ∨ k = 14 → 0 < s.op.length
theorem takeOk_of {s : Wk} {k : Int} (h : mayS s k = true) (h8 : s.op.length ≤ 8) (h16 : s.br.length ≤ 16) : TakeOk s k := by
  refine ⟨?_, ?_, ?_, ?_⟩
  · rintro (rfl | rfl | rfl)
    · simp [mayS] at h; omega
    · simp [mayS] at h; omega
    · simp [mayS] at h; omega
  · rintro rfl
    simp [mayS] at h; omega
  · intro hk
    by_cases h0 : s.op.length < 8
    · exact h0
    · exfalso
      have e : s.op.length = 8 := by omega
      rcases hk with rfl | rfl
      · simp [mayS, e] at h
      · simp [mayS] at h
        rw [h.2] at e
        simp at e
  · intro hk
    by_cases h0 : 0 < s.op.length
    · exact h0
    · exfalso
      have e : s.op.length = 0 := by omega
      rcases hk with rfl | rfl | rfl <;> simp [mayS, e] at h
theorem take_pro (M : Nat) (s : Wk) (x : Opr) (wv : Value) (pw : Option Addr) (cw : Nat) (w : World) (h : WkIs M w s) (hw : wv = .slice pw x.w.length cw) (hk : 1 ≤ x.k ∧ x.k ≤ 14) (ho : TakeOk s x.k) (hbd : ∀ l ∈ s.op, l.parts ≤ 65536 ∧ l.cells ≤ 65536) :
    Calls Tryz.prog 51 #[.pointer (some ⟨M, 0, none⟩), oprVal x wv] w (TakeIs M w s x) := by
  subst hw
  obtain ⟨k, n, t, ws⟩ := x
  dsimp only at hk ho ⊢
  unfold oprVal
  dsimp only
  obtain ⟨j, rfl⟩ : ∃ j : Nat, k = j := ⟨k.toNat, by omega⟩
  have hj : 1 ≤ j ∧ j ≤ 14 := by omega
  rcases (show j = 1 ∨ j = 2 ∨ j = 3 ∨ j = 4 ∨ j = 5 ∨ j = 6 ∨ j = 7 ∨ j = 8 ∨ j = 9 ∨ j = 10 ∨ j = 11 ∨ j = 12 ∨ j = 13 ∨ j = 14 by omega) with rfl | rfl | rfl | rfl | rfl | rfl | rfl | rfl | rfl | rfl | rfl | rfl | rfl | rfl
  · exact take_x1 M s n t ws pw cw w h
  · exact take_br2 M s n t ws pw cw w h (ho.br (by simp))
  · exact take_br3 M s n t ws pw cw w h (ho.br (by simp))
  · exact take_br4 M s n t ws pw cw w h (ho.br (by simp))
  · exact take_close M s n t ws pw cw w h (ho.cl (by simp))
  · exact take_x6 M s n t ws pw cw w h
  · exact take_x7 M s n t ws pw cw w h
  · rcases Nat.eq_zero_or_pos s.op.length with h0 | h0
    · exact take_para0 M s n t ws pw cw w h h0
    · exact take_para1 M s n t ws pw cw w h h0 hbd
  · exact take_done M s n t ws pw cw w h
  · exact take_list10 M s n t ws pw cw w h (ho.ls (by simp))
  · exact take_item11 M s n t ws pw cw w h (ho.tp (by simp)) hbd
  · exact take_list12 M s n t ws pw cw w h (ho.ls (by simp))
  · exact take_item13 M s n t ws pw cw w h (ho.tp (by simp)) hbd
  · exact take_end M s n t ws pw cw w h (ho.tp (by simp))
end Go.Proofs.YtjohhahfpgfjdaaGreatDoor.Ir
end
section
namespace Go.Proofs.YtjohhahfpgfjdaaGreatDoor.Ir
open Go.RowKit Go.Maps Go.Proofs.YtjohhahfpgfjdaaGreatDoor
set_option linter.unusedVariables false
def runM (st tp : Int) : List Opr → Wk → Nat → Nat × Int
  | [], s, i => if endedB s then (0, 0) else (i, 110)
  | x :: l, s, i => if (fitB x st tp && mayS s x.k) = true then runM st tp l (takeS s x) (i + 1) else (i, 110)
def chkM (l : List Opr) (st tp : Int) : Nat × Int := if 65536 < l.length ∨ 16384 < sumT l then (0, 2) else runM st tp l wk0 0
theorem runM_step {st tp : Int} {l : List Opr} {s : Wk} {i : Nat} (h : i < l.length) : runM st tp (l.drop i) s i = if (fitB l[i] st tp && mayS s l[i].k) = true then runM st tp (l.drop (i + 1)) (takeS s l[i]) (i + 1) else (i, 110) := by
  rw [List.drop_eq_getElem_cons h]
  rfl
theorem mapTop_mem {f : Lv → Lv} {l : List Lv} {x : Lv} (h : x ∈ mapTop f l) : x ∈ l ∨ ∃ y ∈ l, x = f y := by
  unfold mapTop at h
  rcases List.mem_append.1 h with h | h
  · exact .inl (List.dropLast_subset _ h)
  · cases e : l.getLast? with
    | none => rw [e] at h; simp at h
    | some y =>
      rw [e] at h
      simp at h
      exact .inr ⟨y, List.mem_of_getLast? e, h⟩
theorem takeS_bound {s : Wk} {x : Opr} {N : Nat} (h : ∀ l ∈ s.op, l.parts ≤ N ∧ l.cells ≤ N) : ∀ l ∈ (takeS s x).op, l.parts ≤ N + 1 ∧ l.cells ≤ N + 1 := by
  have h0 : ∀ l ∈ s.op, l.parts ≤ N + 1 ∧ l.cells ≤ N + 1 := fun l hl => ⟨Nat.le_succ_of_le (h l hl).1, Nat.le_succ_of_le (h l hl).2⟩
  unfold takeS
  split
  · exact h0
  split
  · exact h0
  split
  · intro l hl
    rcases mapTop_mem hl with hl | ⟨y, hy, rfl⟩
    · exact h0 l hl
    · have := h y hy; dsimp only; omega
  split
  · exact h0
  split
  · intro l hl
    rcases List.mem_append.1 hl with hl | hl
    · exact h0 l hl
    · rw [List.mem_singleton] at hl; subst hl; dsimp only; omega
  split
  · intro l hl
    rcases mapTop_mem hl with hl | ⟨y, hy, rfl⟩
    · exact h0 l hl
    · have := h y hy; dsimp only; omega
  split
  · exact fun l hl => h0 l (List.dropLast_subset _ hl)
  · exact h0
def zero44 : Array Value := #[.int .i64 0, .int .i64 0, .int .i64 0, .int .i64 0, .int .i64 0, .int .i64 0, .int .i64 0, .int .i64 0, .int .i64 0, .int .i64 0, .int .i64 0, .int .i64 0, .int .i64 0, .int .i64 0, .int .i64 0, .int .i64 0, .int .i64 0, .int .i64 0, .int .i64 0, .int .i64 0, .int .i64 0, .int .i64 0, .int .i64 0, .int .i64 0, .int .i64 0, .int .i64 0, .int .i64 0, .int .i64 0, .int .i64 0, .int .i64 0, .int .i64 0, .int .i64 0, .int .i64 0, .int .i64 0, .int .i64 0, .int .i64 0, .int .i64 0, .int .i64 0, .int .i64 0, .int .i64 0, .int .i64 0, .int .i64 0, .bool false, .int .i64 0]
theorem cur0 : CurIs zero44 wk0 where
  size := rfl
  all := fun j hj => by
    refine ⟨0, ?_⟩
    have : ∀ j, j < 24 → zero44[j]? = some (.int .i64 0) := by
      intro j hj
      match j, hj with
      | 0, _ => rfl | 1, _ => rfl | 2, _ => rfl | 3, _ => rfl | 4, _ => rfl | 5, _ => rfl | 6, _ => rfl | 7, _ => rfl | 8, _ => rfl | 9, _ => rfl | 10, _ => rfl | 11, _ => rfl
      | 12, _ => rfl | 13, _ => rfl | 14, _ => rfl | 15, _ => rfl | 16, _ => rfl | 17, _ => rfl | 18, _ => rfl | 19, _ => rfl | 20, _ => rfl | 21, _ => rfl | 22, _ => rfl | 23, _ => rfl
      | (n + 24), h => exact absurd h (by omega)
    exact this j hj
  op := fun j hj => absurd hj (by simp [wk0])
  depth := rfl
  br := fun j hj => absurd hj (by simp [wk0])
  nest := rfl
  para := rfl
  ah := rfl
  hop := by simp [wk0]
  hbr := by simp [wk0]
def ChkIs (r : Nat × Int) (w : World) (e : Ending) (w' : World) : Prop := e = .returned (.tuple #[.int .i64 (r.1 : Nat), .int .i64 r.2]) ∧ Below w.heap.size w w'
set_option maxRecDepth 100000 in
set_option maxHeartbeats 2000000 in
theorem check_pro {P : Nat → Prop} (l : List Opr) (v : Value) (st tp : Int) (w : World) (h : RdO P w v l) (hz : sizeOk l) (hT : Tabs w) : Calls Tryz.prog 26 #[v, .int .i64 st, .int .i64 tp] w (ChkIs (chkM l st tp) w) := by
  have HQ := Lib.hid (bytes_pro l v w h hz)
  obtain ⟨pa, cap, rfl, hc1, hc2⟩ := sliceN h
  have HH := Lib.hid h
  have HT := Lib.hid hT
  by_cases hlong : 65536 < l.length
  · have HF := Lib.hid (show chkM l st tp = (0, 2) by unfold chkM; rw [if_pos (.inl hlong)])
    have h1 : (65536 : Int) < l.length := by omega
    clear h hz hT hlong hc1
    go_enter Tryz.func26, Tryz.ntmps26
    go_wp2_with fail
    go_ret2
    unfold ChkIs
    rw [HF.out]
    exact ⟨rfl, Below.refl _ _⟩
  have h1 : ¬ (65536 : Int) < l.length := by omega
  by_cases hbig : 16384 < sumT l
  · have HF := Lib.hid (show chkM l st tp = (0, 2) by unfold chkM; rw [if_pos (.inr hbig)])
    obtain ⟨q, hq⟩ : ∃ q, sumT l = q := ⟨_, rfl⟩
    rw [hq] at HQ hbig
    have h2 : (16384 : Int) < (q : Nat) := by omega
    clear h hz hT hlong hc1 hq hbig
    go_enter Tryz.func26, Tryz.ntmps26
    go_wp2_with fail
    refine HQ.out.mono ?_
    rintro e w1 ⟨rfl, hb⟩
    have HB := Lib.hid hb
    clear hb
    go_wp2_with fail
    go_ret2
    unfold ChkIs
    rw [HF.out]
    exact ⟨rfl, HB.out⟩
  have HF := Lib.hid (show chkM l st tp = runM st tp l wk0 0 by unfold chkM; rw [if_neg (by omega)])
  have HSZ := Lib.hid (show ∀ x ∈ l, x.t.size ≤ 16777216 from fun x hx => by have := sumT_mem hx; omega)
  obtain ⟨q, hq⟩ : ∃ q, sumT l = q := ⟨_, rfl⟩
  rw [hq] at HQ hbig
  have h2 : ¬ (16384 : Int) < (q : Nat) := by omega
  have h2d : decide ((16384 : Int) < (q : Nat)) = false := decide_eq_false h2
  obtain ⟨n, hn⟩ : ∃ n, l.length = n := ⟨_, rfl⟩
  have HN := Lib.hid hn
  have hn6 : n ≤ 65536 := by omega
  have HN6 := Lib.hid hn6
  rw [hn] at HH HQ h1 ⊢
  clear h hz hT hlong hc1 hq hbig hn
  go_enter Tryz.func26, Tryz.ntmps26
  go_wp2_with fail
  refine HQ.out.mono ?_
  rintro e w1 ⟨rfl, hb⟩
  have HB1 := Lib.hid (hb.alloc hb.size (.cells zero44 124))
  have HH1 := Lib.hid (HH.out.below HB1.out)
  have HT1 := Lib.hid (HT.out.below HB1.out (Nat.le_refl _))
  have HW1 := Lib.hid (show WkIs w1.heap.size (w1.alloc (.cells zero44 124)) wk0 from ⟨_, heap_alloc_new w1 _, cur0⟩)
  have HBw := Lib.hid hb.size
  have HBR := Lib.hid (Below.refl (w1.heap.size) (w1.alloc (.cells zero44 124)))
  unfold zero44 at HB1 HH1 HT1 HW1 HBR
  clear hb HQ
  obtain ⟨W1, hW1⟩ : ∃ W1, w1.alloc (.cells #[.int .i64 0, .int .i64 0, .int .i64 0, .int .i64 0, .int .i64 0, .int .i64 0, .int .i64 0, .int .i64 0, .int .i64 0, .int .i64 0, .int .i64 0, .int .i64 0, .int .i64 0, .int .i64 0, .int .i64 0, .int .i64 0, .int .i64 0, .int .i64 0, .int .i64 0, .int .i64 0, .int .i64 0, .int .i64 0, .int .i64 0, .int .i64 0, .int .i64 0, .int .i64 0, .int .i64 0, .int .i64 0, .int .i64 0, .int .i64 0, .int .i64 0, .int .i64 0, .int .i64 0, .int .i64 0, .int .i64 0, .int .i64 0, .int .i64 0, .int .i64 0, .int .i64 0, .int .i64 0, .int .i64 0, .int .i64 0, .bool false, .int .i64 0] 124) = W1 := ⟨_, rfl⟩
  rw [hW1] at HB1 HH1 HT1 HW1 HBR
  obtain ⟨M, hM⟩ : ∃ M, w1.heap.size = M := ⟨_, rfl⟩
  have HM := Lib.hid hM
  rw [hM] at HW1 HBw HBR
  go_wp2_with fail
  have HWS := Lib.hid (show M < W1.heap.size from HW1.out.lt)
  clear hW1 hM HM
  go_loopw [21] (fun i wr => ∃ (k : Nat) (s : Wk), i = .int .i64 k ∧ k ≤ n ∧ Hid (WkIs M wr s) ∧ Hid (runM st tp (l.drop k) s k = runM st tp l wk0 0) ∧ Hid (Below M W1 wr) ∧ Hid (∀ o ∈ s.op, o.parts ≤ k ∧ o.cells ≤ k)) (fun i _ => n - (intOf i).toNat)
  case atStart => exact ⟨0, wk0, rfl, Nat.zero_le _, HW1, Lib.hid rfl, HBR, Lib.hid (fun o ho => absurd ho (by simp [wk0]))⟩
  case round =>
    obtain ⟨k, s, rfl, hk, HW, HR, HB, HD⟩ := hrel
    have HBx := Lib.hid (HB1.out.trans (HB.out.mono HBw.out))
    have HWM := Lib.hid (show W1.heap.size ≤ wr.heap.size from HB.out.size)
    by_cases hlt : k < n
    · have hkl : k < l.length := by rw [HN.out]; exact hlt
      obtain ⟨b, off, rfl, c0, c1, c2, wv, c3, h4⟩ := (HH.out.below HBx.out).at_ hkl
      have hs := runM_step (st := st) (tp := tp) (s := s) hkl
      have hsz := HSZ.out _ (List.getElem_mem hkl)
      obtain ⟨p4, q4, rfl, _, _⟩ := h4.form
      obtain ⟨x, hx⟩ : ∃ x, l[k] = x := ⟨_, rfl⟩
      rw [hx] at c0 c1 c2 c3 h4 hs hsz
      obtain ⟨zl, hzl⟩ : ∃ zl, x.w.length = zl := ⟨_, rfl⟩
      have HZL := Lib.hid hzl
      rw [hzl] at c3 h4
      have hal : Below wr.heap.size wr (wr.alloc (.cells #[.int .i64 x.k, .int .i64 x.n, .string x.t, .slice p4 zl q4] 53)) := (Below.refl _ wr).alloc (Nat.le_refl _) _
      have HAl := Lib.hid hal
      have HY := Lib.hid (heap_alloc_new wr (.cells #[.int .i64 x.k, .int .i64 x.n, .string x.t, .slice p4 zl q4] 53))
      have HFi := Lib.hid (fits_pro x st tp _ _ (h4.below hal) hsz ((HT.out.below HBx.out (Nat.le_refl _)).below hal (Nat.le_refl _)))
      obtain ⟨fb, hfb⟩ : ∃ fb, fitB x st tp = fb := ⟨_, rfl⟩
      rw [hfb] at HFi hs
      have k1 : (k : Int) < n := by omega
      have HLT := Lib.hid hlt
      clear hal hfb hsz h4 hx hzl
      cases fb with
      | false =>
        rw [show (false && mayS s x.k) = false from rfl, if_neg (by decide)] at hs
        have HZ := Lib.hid (HF.out.trans (HR.out.symm.trans hs))
        clear hs
        go_wp2_with fail
        refine HFi.out.mono ?_
        rintro e w2 ⟨rfl, hb⟩
        have HB2 := Lib.hid ((HBx.out.trans (HAl.out.mono HBx.out.size)).trans (hb.mono (Nat.le_trans HBx.out.size HAl.out.size)))
        clear hb
        go_wp2_with fail
        go_ret2
        unfold ChkIs
        rw [HZ.out]
        exact ⟨rfl, HB2.out⟩
      | true =>
        obtain ⟨mb, hmb⟩ : ∃ mb, mayS s x.k = mb := ⟨_, rfl⟩
        have HMB := Lib.hid hmb
        rw [hmb, show (true && mb) = mb from rfl] at hs
        have HS := Lib.hid hs
        clear hs hmb
        go_wp2_with fail
        refine HFi.out.mono ?_
        rintro e w2 ⟨rfl, hb⟩
        have HB2 := Lib.hid ((HBx.out.trans (HAl.out.mono HBx.out.size)).trans (hb.mono (Nat.le_trans HBx.out.size HAl.out.size)))
        have HM2 := Lib.hid ((HB.out.trans (HAl.out.mono (Nat.le_trans (Nat.le_of_lt HWS.out) HWM.out))).trans (hb.mono (Nat.le_trans (Nat.le_trans (Nat.le_of_lt HWS.out) HWM.out) HAl.out.size)))
        have HW2 := Lib.hid ((HW.out.below HAl.out).below hb)
        have hy := (hb.block wr.heap.size (Array.getElem?_eq_some_iff.1 HY.out).1).trans HY.out
        have HY2 := Lib.hid hy
        obtain ⟨d0, d1, d2, d3⟩ : w2.cell? ⟨wr.heap.size, 0, none⟩ = some (.int .i64 x.k) ∧ w2.cell? ⟨wr.heap.size, 1, none⟩ = some (.int .i64 x.n) ∧ w2.cell? ⟨wr.heap.size, 2, none⟩ = some (.string x.t) ∧ w2.cell? ⟨wr.heap.size, 3, none⟩ = some (.slice p4 zl q4) := by
          refine ⟨?_, ?_, ?_, ?_⟩ <;> rw [cell_of_row _ _ _ _ _ _ hy] <;> rfl
        have HMy := Lib.hid (may_pro M s x.k w2 HW2.out)
        unfold mayCall at HMy
        rw [HMB.out] at HMy
        clear hb hy
        go_wp2_with fail
        refine HMy.out.mono ?_
        rintro e w3 ⟨rfl, hb⟩
        have HB3 := Lib.hid (HB2.out.trans (hb.mono HB2.out.size))
        have HM3 := Lib.hid (HM2.out.trans (hb.mono (Nat.le_trans (Nat.le_of_lt HWS.out) HM2.out.size)))
        have HW3 := Lib.hid (HW2.out.below hb)
        have hy := (hb.block wr.heap.size (Array.getElem?_eq_some_iff.1 HY2.out).1).trans HY2.out
        obtain ⟨a0, a1, a2, a3⟩ : w3.cell? ⟨wr.heap.size, 0, none⟩ = some (.int .i64 x.k) ∧ w3.cell? ⟨wr.heap.size, 1, none⟩ = some (.int .i64 x.n) ∧ w3.cell? ⟨wr.heap.size, 2, none⟩ = some (.string x.t) ∧ w3.cell? ⟨wr.heap.size, 3, none⟩ = some (.slice p4 zl q4) := by
          refine ⟨?_, ?_, ?_, ?_⟩ <;> rw [cell_of_row _ _ _ _ _ _ hy] <;> rfl
        clear hb hy
        cases mb with
        | false =>
          have hs := HS.out
          rw [if_neg (by decide)] at hs
          have HZ := Lib.hid (HF.out.trans (HR.out.symm.trans hs))
          clear hs
          go_wp2_with fail
          go_ret2
          unfold ChkIs
          rw [HZ.out]
          exact ⟨rfl, HB3.out⟩
        | true =>
          have hs := HS.out
          rw [if_pos rfl] at hs
          have HZ := Lib.hid (hs.symm.trans HR.out)
          have hk14 : 1 ≤ x.k ∧ x.k ≤ 14 := by
            by_cases h : 1 ≤ x.k ∧ x.k ≤ 14
            · exact h
            · have := HMB.out; rw [may_other h] at this; cases this
          have HTk := Lib.hid (take_pro M s x (.slice p4 zl q4) p4 q4 w3 HW3.out (by rw [HZL.out]) hk14 (takeOk_of HMB.out HW3.out.bounds.1 HW3.out.bounds.2) (fun o ho => by have := HD.out o ho; have := HN6.out; have := HLT.out; omega))
          unfold oprVal at HTk
          clear hs hk14
          go_wp2_with fail
          refine HTk.out.mono ?_
          rintro e w4 ⟨rfl, hw4, hb⟩
          have HB4 := Lib.hid (HM3.out.trans hb)
          have HW4 := Lib.hid hw4
          have HD4 := Lib.hid (takeS_bound (x := x) HD.out)
          clear hb hw4
          go_wp2_with fail
          go_roundw
          case measure => have := HLT.out; simp [intOf]; omega
          case rel => exact ⟨k + 1, takeS s x, by go_num, by have := HLT.out; omega, HW4, HZ, HB4, HD4⟩
    · obtain rfl : k = n := by omega
      have hz1 : ¬ (k : Int) < k := by omega
      have hz : runM st tp (l.drop k) s k = if endedB s then (0, 0) else (k, 110) := by rw [List.drop_eq_nil_of_le (by rw [HN.out]; exact Nat.le_refl _)]; rfl
      have HE := Lib.hid (ended_pro M s wr HW.out)
      obtain ⟨eb, heb⟩ : ∃ eb, endedB s = eb := ⟨_, rfl⟩
      rw [heb] at HE hz
      have HZ := Lib.hid (HF.out.trans (HR.out.symm.trans hz))
      clear hz heb hlt
      cases eb with
      | false =>
        go_wp2_with fail
        refine HE.out.mono ?_
        rintro e w2 ⟨rfl, rfl⟩
        go_wp2_with fail
        go_ret2
        unfold ChkIs
        rw [HZ.out]
        exact ⟨rfl, HBx.out⟩
      | true =>
        go_wp2_with fail
        refine HE.out.mono ?_
        rintro e w2 ⟨rfl, rfl⟩
        go_wp2_with fail
        go_ret2
        unfold ChkIs
        rw [HZ.out]
        exact ⟨rfl, HBx.out⟩
end Go.Proofs.YtjohhahfpgfjdaaGreatDoor.Ir
end
