/- Layer 11: what is open, in memory; the program's small functions over it. -/
import Derived.Test.YtdagombmgcnofaaGreatDoorIb
namespace Go.Proofs.YtdagombmgcnofaaGreatDoor.Ir
open Go.RowKit Go.Maps Go.Proofs.YtdagombmgcnofaaGreatDoor
set_option linter.unusedVariables false

def lvVal (o : Lv) : Value := .agg #[.int .i64 (o.wide : Nat), .int .i64 (o.parts : Nat), .int .i64 (o.cells : Nat)]
/-- The 44 cells of what is open. -/
structure CurIs (c : Array Value) (s : Wk) : Prop where
  size : c.size = 44
  all : ∀ j, j < 24 → ∃ z, c[j]? = some (.int .i64 z)
  op : ∀ j (hj : j < s.op.length), c[j * 3]? = some (.int .i64 (s.op[j].wide : Nat)) ∧ c[j * 3 + 1]? = some (.int .i64 (s.op[j].parts : Nat)) ∧ c[j * 3 + 2]? = some (.int .i64 (s.op[j].cells : Nat))
  depth : c[24]? = some (.int .i64 (s.op.length : Nat))
  br : ∀ j (hj : j < s.br.length), c[25 + j]? = some (.int .i64 s.br[j])
  nest : c[41]? = some (.int .i64 (s.br.length : Nat))
  para : c[42]? = some (.bool s.para)
  ah : c[43]? = some (.int .i64 s.ah)
  hop : s.op.length ≤ 8
  hbr : s.br.length ≤ 16
def WkIs (M : Nat) (w : World) (s : Wk) : Prop := ∃ c : Array Value, w.heap[M]? = some (.cells c 149 (0, 0)) ∧ CurIs c s
theorem WkIs.lt {M : Nat} {w : World} {s : Wk} (h : WkIs M w s) : M < w.heap.size := by
  obtain ⟨c, h1, _⟩ := h
  exact (Array.getElem?_eq_some_iff.1 h1).1
theorem WkIs.below {M : Nat} {w w' : World} {s : Wk} (h : WkIs M w s) (hb : Below w.heap.size w w') : WkIs M w' s := by
  obtain ⟨c, h1, h2⟩ := h
  exact ⟨c, (hb.block M (Array.getElem?_eq_some_iff.1 h1).1).trans h1, h2⟩
theorem WkIs.cells {M : Nat} {w : World} {s : Wk} (h : WkIs M w s) : w.cell? ⟨M, 24, none⟩ = some (.int .i64 (s.op.length : Nat)) ∧ w.cell? ⟨M, 41, none⟩ = some (.int .i64 (s.br.length : Nat)) ∧ w.cell? ⟨M, 42, none⟩ = some (.bool s.para) ∧ w.cell? ⟨M, 43, none⟩ = some (.int .i64 s.ah) := by
  obtain ⟨c, h1, h2⟩ := h
  refine ⟨?_, ?_, ?_, ?_⟩ <;> rw [cell_of_row _ _ _ _ _ _ h1]
  · exact h2.depth
  · exact h2.nest
  · exact h2.para
  · exact h2.ah
theorem WkIs.lv {M : Nat} {w : World} {s : Wk} (h : WkIs M w s) {j : Nat} (hj : j < s.op.length) : w.cell? ⟨M, j * 3, none⟩ = some (.int .i64 (s.op[j].wide : Nat)) ∧ w.cell? ⟨M, j * 3 + 1, none⟩ = some (.int .i64 (s.op[j].parts : Nat)) ∧ w.cell? ⟨M, j * 3 + 2, none⟩ = some (.int .i64 (s.op[j].cells : Nat)) := by
  obtain ⟨c, h1, h2⟩ := h
  obtain ⟨a, b, d⟩ := h2.op j hj
  refine ⟨?_, ?_, ?_⟩ <;> rw [cell_of_row _ _ _ _ _ _ h1]
  · exact a
  · exact b
  · exact d
theorem WkIs.brace {M : Nat} {w : World} {s : Wk} (h : WkIs M w s) {j : Nat} (hj : j < s.br.length) : w.cell? ⟨M, 25 + j, none⟩ = some (.int .i64 s.br[j]) := by
  obtain ⟨c, h1, h2⟩ := h
  rw [cell_of_row _ _ _ _ _ _ h1]
  exact h2.br j hj
theorem WkIs.bounds {M : Nat} {w : World} {s : Wk} (h : WkIs M w s) : s.op.length ≤ 8 ∧ s.br.length ≤ 16 := by
  obtain ⟨c, _, h2⟩ := h
  exact ⟨h2.hop, h2.hbr⟩
theorem topL_at {s : Wk} (h : 0 < s.op.length) : topL s = s.op[s.op.length - 1] := by
  unfold topL
  rw [List.getLast?_eq_getElem?, List.getElem?_eq_getElem (by omega)]
  rfl
theorem topL_none {s : Wk} (h : s.op.length = 0) : topL s = lv0 := by
  unfold topL
  rw [List.eq_nil_of_length_eq_zero h]
  rfl

set_option maxRecDepth 100000 in
theorem within_pro (a lo hi : Int) (w : World) : Calls Tryz.prog 112 #[.int .i64 a, .int .i64 lo, .int .i64 hi] w fun e w' => e = .returned (.bool (decide (lo ≤ a ∧ a < hi))) ∧ w = w' := by
  by_cases h1 : lo ≤ a
  · by_cases h2 : a < hi
    · rw [decide_eq_true (show lo ≤ a ∧ a < hi from ⟨h1, h2⟩)]
      go_enter Tryz.func112, Tryz.ntmps112
      go_wp2_with fail
      go_ret
      exact ⟨rfl, rfl⟩
    · rw [decide_eq_false (show ¬ (lo ≤ a ∧ a < hi) by omega)]
      go_enter Tryz.func112, Tryz.ntmps112
      go_wp2_with fail
      go_ret
      exact ⟨rfl, rfl⟩
  · rw [decide_eq_false (show ¬ (lo ≤ a ∧ a < hi) by omega)]
    go_enter Tryz.func112, Tryz.ntmps112
    go_wp2_with fail
    go_ret
    exact ⟨rfl, rfl⟩
set_option maxRecDepth 100000 in
theorem isLink_pro (k : Int) (w : World) : Calls Tryz.prog 71 #[.int .i64 k] w fun e w' => e = .returned (.bool (isLk k)) ∧ w = w' := by
  by_cases h1 : k = 3
  · subst h1
    go_enter Tryz.func71, Tryz.ntmps71
    go_wp2_with fail
    go_ret
    exact ⟨rfl, rfl⟩
  · by_cases h2 : k = 4
    · subst h2
      go_enter Tryz.func71, Tryz.ntmps71
      go_wp2_with fail
      go_ret
      exact ⟨rfl, rfl⟩
    · have h3 : (k == 3) = false := by simpa using h1
      have h4 : (k == 4) = false := by simpa using h2
      have h5 : isLk k = false := by unfold isLk; rw [decide_eq_false h1, decide_eq_false h2]; rfl
      rw [h5]
      clear h1 h2 h5
      go_enter Tryz.func71, Tryz.ntmps71
      go_wp2_with fail
      go_ret
      exact ⟨rfl, rfl⟩
set_option maxRecDepth 100000 in
theorem table_pro (o : Lv) (w : World) : Calls Tryz.prog 116 #[lvVal o] w (SaysL (.bool (tabB o)) w) := by
  unfold lvVal tabB
  have HB := Lib.hid ((Below.refl w.heap.size w).alloc (Nat.le_refl _) (.cells #[.int .i64 (o.wide : Nat), .int .i64 (o.parts : Nat), .int .i64 (o.cells : Nat)] 145))
  by_cases h1 : 0 < o.wide
  · rw [decide_eq_true h1]
    have h2 : (0 : Int) < (o.wide : Nat) := by omega
    go_enter Tryz.func116, Tryz.ntmps116
    go_wp2_with fail
    go_ret
    exact ⟨rfl, HB.out⟩
  · rw [decide_eq_false h1]
    have h2 : ¬ (0 : Int) < (o.wide : Nat) := by omega
    go_enter Tryz.func116, Tryz.ntmps116
    go_wp2_with fail
    go_ret
    exact ⟨rfl, HB.out⟩
set_option maxRecDepth 100000 in
theorem ended_pro (M : Nat) (s : Wk) (w : World) (h : WkIs M w s) : Calls Tryz.prog 65 #[.pointer (some ⟨M, 0, none⟩)] w fun e w' => e = .returned (.bool (endedB s)) ∧ w = w' := by
  obtain ⟨c0, c1, c2, c3⟩ := h.cells
  unfold endedB
  obtain ⟨pa, br, op, ah⟩ := s
  dsimp only at c0 c1 c2 c3 ⊢
  clear c1 c3 h
  cases pa with
  | true =>
    go_enter Tryz.func65, Tryz.ntmps65
    go_wp2_with fail
    go_ret
    exact ⟨rfl, rfl⟩
  | false =>
    by_cases h1 : op.length = 0
    · rw [h1] at c0
      rw [decide_eq_true h1]
      clear h1
      go_enter Tryz.func65, Tryz.ntmps65
      go_wp2_with fail
      go_ret
      exact ⟨rfl, rfl⟩
    · rw [decide_eq_false h1]
      have h2 : ((op.length : Int) == 0) = false := by simpa using h1
      clear h1
      go_enter Tryz.func65, Tryz.ntmps65
      go_wp2_with fail
      go_ret
      exact ⟨rfl, rfl⟩
set_option maxRecDepth 100000 in
set_option maxHeartbeats 1000000 in
theorem innermost_pro (M : Nat) (s : Wk) (w : World) (h : WkIs M w s) : Calls Tryz.prog 114 #[.pointer (some ⟨M, 0, none⟩)] w (SaysL (lvVal (topL s)) w) := by
  obtain ⟨c0, c1, c2, c3⟩ := h.cells
  have hbd := h.bounds.1
  have hL := h.lt
  by_cases h1 : s.op.length = 0
  · rw [h1] at c0
    rw [topL_none h1]
    have HB := Lib.hid ((Below.refl w.heap.size w).alloc (Nat.le_refl _) (.cells #[.int .i64 0, .int .i64 0, .int .i64 0] 145))
    clear h1 c1 c2 c3 h hbd
    go_enter Tryz.func114, Tryz.ntmps114
    go_wp2_with fail
    exact bodyPost_ret (v := lvVal lv0) (by simp [results, Tryz.results114, go_sem, lvVal, lv0]) rfl ⟨rfl, HB.out⟩
  · have h2 : ((s.op.length : Int) == 0) = false := by simpa using h1
    obtain ⟨d0, d1, d2⟩ := h.lv (j := s.op.length - 1) (by omega)
    rw [← topL_at (by omega)] at d0 d1 d2
    obtain ⟨t, ht⟩ : ∃ t, topL s = t := ⟨_, rfl⟩
    rw [ht] at d0 d1 d2 ⊢
    obtain ⟨n, hn⟩ : ∃ n, s.op.length = n + 1 := ⟨s.op.length - 1, by omega⟩
    rw [hn] at c0 d0 d1 d2 h2
    have e1 : wrap64 (((n + 1 : Nat) : Int) - 1) = (n : Int) := by unfold wrap64; omega
    have e2 : ((n + 1 : Nat) : Int) - 1 = (n : Int) := by omega
    rw [show n + 1 - 1 = n by omega] at d0 d1 d2
    have n8 : (n : Int) < 8 := by omega
    have n8' : n < 8 := by omega
    have HB := Lib.hid ((Below.refl w.heap.size w).alloc (Nat.le_refl _) (.cells #[.int .i64 (t.wide : Nat), .int .i64 (t.parts : Nat), .int .i64 (t.cells : Nat)] 145))
    clear c1 c2 c3 h hbd h1 ht hn
    go_enter Tryz.func114, Tryz.ntmps114
    go_wp2_with fail
    go_region
    go_wp2_with fail
    exact bodyPost_ret (v := lvVal t) (by simp [results, Tryz.results114, go_sem, lvVal]) rfl ⟨rfl, HB.out.drew⟩
end Go.Proofs.YtdagombmgcnofaaGreatDoor.Ir
