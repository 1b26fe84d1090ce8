/- What is proved: StyleAssociates holds of any three changes and any look. No condition but the form's own. -/
import Derived.Test.YtceanagnkcejgaaDoorSaw
import Derived.Test.YtceanagnkcejgaaDoorApt
import Derived.Test.YtceanagnkcejgaaDoorArg
import Derived.Test.YtceanagnkcejgaaDoorPost
import Derived.Test.YtceanagnkcejgaaDoorSLftd
import Derived.Test.YtceanagnkcejgaaDoorCards
import Derived.Test.YtceanagnkcejgaaDoorTie
import Derived.ProofKit
import Derived.OpenShut
import Derived.Deep.DeepHandedRow
import Derived.WideKeyArgs
namespace Go.Proofs.YtceanagnkcejgaaDoor.styleAssociates
open Go.ChangeShapes Go.WideShapes Go.ChangeAt Go.RowKit
open Go.ChangeMaps (open_string shut_string)
set_option linter.unusedVariables false
set_option linter.unusedSimpArgs false

section
variable {P : Program} {md : Region.Mode} {ops : Array Oper} {Q : Exit → Act → World → Prop} {S : World → Prop}
/-- One operation alone may come up. -/
theorem wpAnyH_one {i : Nat} {o : Oper} {fuel : Nat} {listed : Array Bool} {a : Act} {w : World} (hr : Region.ready md ops listed = [i]) (hi : ops[i]? = some o) (hw : Region.wanted o (yielded ops a.tmps) = true)
    (h : ∀ K' : Act → World → Prop, (∀ a' w', S w' → wpAnyH P md ops Q S fuel (listed.setIfInBounds i true) a' w' → K' a' w') → o.wp P a w K' Q) : wpAnyH P md ops Q S (fuel + 1) listed a w :=
  wpAnyH_all hr (by simp) (fun j hj => by
    obtain rfl : j = i := by simpa using hj
    exact op_via hi hw (fun K hK => h K (fun a' w' h1 h2 => hK a' w' ⟨h1, h2⟩)))
end
/-- The four boxes of the call hold what came in. -/
def SC (B : Nat) (a b c : Chg) (l : Lk) (w0 w : World) : Prop :=
  Below B w0 w ∧ w.heap[B]? = some (.cells #[.int .i64 a.on, .int .i64 a.off, .int .i64 a.col] 23 (0, 0)) ∧ w.heap[B + 1]? = some (.cells #[.int .i64 b.on, .int .i64 b.off, .int .i64 b.col] 23 (0, 0)) ∧ w.heap[B + 1 + 1]? = some (.cells #[.int .i64 c.on, .int .i64 c.off, .int .i64 c.col] 23 (0, 0)) ∧ w.heap[B + 1 + 1 + 1]? = some (.cells #[.int .i64 l.att, .int .i64 l.col] 25 (0, 0))
theorem SC.below {B : Nat} {a b c : Chg} {l : Lk} {w0 w w' : World} (h : SC B a b c l w0 w) (hb : Below w.heap.size w w') : SC B a b c l w0 w' := by
  obtain ⟨h0, h1, h2, h3, h4⟩ := h
  have go : ∀ (k : Nat) (o : Obj), w.heap[k]? = some o → w'.heap[k]? = some o := fun k o e => (hb.block k (Array.getElem?_eq_some_iff.1 e).1).trans e
  exact ⟨h0.trans (hb.mono (Nat.le_of_lt (Array.getElem?_eq_some_iff.1 h1).1)), go _ _ h1, go _ _ h2, go _ _ h3, go _ _ h4⟩
theorem SC.cells {B : Nat} {a b c : Chg} {l : Lk} {w0 w : World} (h : SC B a b c l w0 w) :
    w.cell? ⟨B, 0, none⟩ = some (.int .i64 a.on) ∧ w.cell? ⟨B, 1, none⟩ = some (.int .i64 a.off) ∧ w.cell? ⟨B, 2, none⟩ = some (.int .i64 a.col) ∧
    w.cell? ⟨B + 1, 0, none⟩ = some (.int .i64 b.on) ∧ w.cell? ⟨B + 1, 1, none⟩ = some (.int .i64 b.off) ∧ w.cell? ⟨B + 1, 2, none⟩ = some (.int .i64 b.col) ∧
    w.cell? ⟨B + 1 + 1, 0, none⟩ = some (.int .i64 c.on) ∧ w.cell? ⟨B + 1 + 1, 1, none⟩ = some (.int .i64 c.off) ∧ w.cell? ⟨B + 1 + 1, 2, none⟩ = some (.int .i64 c.col) ∧
    w.cell? ⟨B + 1 + 1 + 1, 0, none⟩ = some (.int .i64 l.att) ∧ w.cell? ⟨B + 1 + 1 + 1, 1, none⟩ = some (.int .i64 l.col) := by
  obtain ⟨_, h1, h2, h3, h4⟩ := h
  refine ⟨?_, ?_, ?_, ?_, ?_, ?_, ?_, ?_, ?_, ?_, ?_⟩
  · rw [cell_of_row _ _ _ _ _ _ h1]; rfl
  · rw [cell_of_row _ _ _ _ _ _ h1]; rfl
  · rw [cell_of_row _ _ _ _ _ _ h1]; rfl
  · rw [cell_of_row _ _ _ _ _ _ h2]; rfl
  · rw [cell_of_row _ _ _ _ _ _ h2]; rfl
  · rw [cell_of_row _ _ _ _ _ _ h2]; rfl
  · rw [cell_of_row _ _ _ _ _ _ h3]; rfl
  · rw [cell_of_row _ _ _ _ _ _ h3]; rfl
  · rw [cell_of_row _ _ _ _ _ _ h3]; rfl
  · rw [cell_of_row _ _ _ _ _ _ h4]; rfl
  · rw [cell_of_row _ _ _ _ _ _ h4]; rfl
theorem none_cells {w : World} {N : Nat} (h : w.heap[N]? = some (.cells #[.int .i64 0, .int .i64 0, .int .i64 (-1)] 23 (0, 0))) : w.cell? ⟨N, 0, none⟩ = some (.int .i64 0) ∧ w.cell? ⟨N, 1, none⟩ = some (.int .i64 0) ∧ w.cell? ⟨N, 2, none⟩ = some (.int .i64 (-1)) := by
  refine ⟨?_, ?_, ?_⟩
  · rw [cell_of_row _ _ _ _ _ _ h]; rfl
  · rw [cell_of_row _ _ _ _ _ _ h]; rfl
  · rw [cell_of_row _ _ _ _ _ _ h]; rfl
theorem start (a b c : Chg) (l : Lk) (W : World) : SC W.heap.size a b c l W ((((W.alloc (.cells #[.int .i64 a.on, .int .i64 a.off, .int .i64 a.col] 23)).alloc (.cells #[.int .i64 b.on, .int .i64 b.off, .int .i64 b.col] 23)).alloc (.cells #[.int .i64 c.on, .int .i64 c.off, .int .i64 c.col] 23)).alloc (.cells #[.int .i64 l.att, .int .i64 l.col] 25)) := by
  have e1 := heap_alloc_new W (.cells #[.int .i64 a.on, .int .i64 a.off, .int .i64 a.col] 23)
  have e2 := heap_alloc_new (W.alloc (.cells #[.int .i64 a.on, .int .i64 a.off, .int .i64 a.col] 23)) (.cells #[.int .i64 b.on, .int .i64 b.off, .int .i64 b.col] 23)
  have e3 := heap_alloc_new ((W.alloc (.cells #[.int .i64 a.on, .int .i64 a.off, .int .i64 a.col] 23)).alloc (.cells #[.int .i64 b.on, .int .i64 b.off, .int .i64 b.col] 23)) (.cells #[.int .i64 c.on, .int .i64 c.off, .int .i64 c.col] 23)
  have e4 := heap_alloc_new (((W.alloc (.cells #[.int .i64 a.on, .int .i64 a.off, .int .i64 a.col] 23)).alloc (.cells #[.int .i64 b.on, .int .i64 b.off, .int .i64 b.col] 23)).alloc (.cells #[.int .i64 c.on, .int .i64 c.off, .int .i64 c.col] 23)) (.cells #[.int .i64 l.att, .int .i64 l.col] 25)
  have z2 : (W.alloc (.cells #[.int .i64 a.on, .int .i64 a.off, .int .i64 a.col] 23)).heap.size = W.heap.size + 1 := by simp
  have z3 : ((W.alloc (.cells #[.int .i64 a.on, .int .i64 a.off, .int .i64 a.col] 23)).alloc (.cells #[.int .i64 b.on, .int .i64 b.off, .int .i64 b.col] 23)).heap.size = W.heap.size + 1 + 1 := by simp
  have z4 : (((W.alloc (.cells #[.int .i64 a.on, .int .i64 a.off, .int .i64 a.col] 23)).alloc (.cells #[.int .i64 b.on, .int .i64 b.off, .int .i64 b.col] 23)).alloc (.cells #[.int .i64 c.on, .int .i64 c.off, .int .i64 c.col] 23)).heap.size = W.heap.size + 1 + 1 + 1 := by simp
  refine ⟨((((Below.refl _ W).alloc (Nat.le_refl _) _).alloc (by rw [z2]; omega) _).alloc (by rw [z3]; omega) _).alloc (by rw [z4]; omega) _, ?_, ?_, ?_, ?_⟩
  · rw [Below.heap_alloc _ _ _ (by rw [z4]; omega), Below.heap_alloc _ _ _ (by rw [z3]; omega), Below.heap_alloc _ _ _ (by rw [z2]; omega)]; exact e1
  · rw [Below.heap_alloc _ _ _ (by rw [z4]; omega), Below.heap_alloc _ _ _ (by rw [z3]; omega), ← z2]; exact e2
  · rw [Below.heap_alloc _ _ _ (by rw [z4]; omega), ← z3]; exact e3
  · rw [← z4]; exact e4

set_option maxRecDepth 100000 in
set_option maxHeartbeats 8000000 in
theorem walk (a b c : Chg) (l : Lk) (W : World) (ha : In64 a.on ∧ In64 a.off ∧ In64 a.col) (hb : In64 b.on ∧ In64 b.off ∧ In64 b.col) (hc : In64 c.on ∧ In64 c.off ∧ In64 c.col) (hl : In64 l.att ∧ In64 l.col) (hT : Tabs W) :
    Calls Tryd.prog 4 #[chgVal a, chgVal b, chgVal c, lkVal l] W fun e W' => e = .returned (.bool true) ∧ Below W.heap.size W W' := by
  have HT := Lib.hid hT
  have C3 := Lib.hid (show ∀ w, Calls Tryd.prog 7 #[chgVal a, chgVal none0] w (Says (chgVal a) w) from fun w => by
    have := then_pro a none0 w
    rw [then_none a ha.1 ha.2.1] at this
    exact this)
  have C4 := Lib.hid (show ∀ w, Calls Tryd.prog 7 #[chgVal none0, chgVal a] w (Says (chgVal a) w) from fun w => by
    have := then_pro none0 a w
    rw [none_then a ha.1 ha.2.1] at this
    exact this)
  have C5 := Lib.hid (show ∀ w, Calls Tryd.prog 10 #[lkVal l, chgVal none0] w (Says (lkVal l) w) from fun w => by
    have := apply_pro l none0 w
    rw [apply_none l hl.1] at this
    exact this)
  clear hT ha hb hc hl
  unfold chgVal lkVal
  go_enter Tryd.func4, Tryd.ntmps4
  go_wp2_with fail
  have hS := start a b c l W
  obtain ⟨w0, hw0⟩ : ∃ w0, ((((W.alloc (.cells #[.int .i64 a.on, .int .i64 a.off, .int .i64 a.col] 23)).alloc (.cells #[.int .i64 b.on, .int .i64 b.off, .int .i64 b.col] 23)).alloc (.cells #[.int .i64 c.on, .int .i64 c.off, .int .i64 c.col] 23)).alloc (.cells #[.int .i64 l.att, .int .i64 l.col] 25)) = w0 := ⟨_, rfl⟩
  rw [hw0] at hS ⊢
  clear hw0
  obtain ⟨B, hB⟩ : ∃ B, W.heap.size = B := ⟨_, rfl⟩
  rw [hB] at hS ⊢
  have HBq := Lib.hid hB
  clear hB
  refine (awake_law _ (HT.out.at (by rw [HBq.out]; exact hS.1))).mono ?_
  rintro e w1 ⟨rfl, hb⟩
  replace hS := hS.below hb
  clear hb
  have HS := Lib.hid hS
  obtain ⟨x0, x1, x2, y0, y1, y2, u0, u1, u2, z0, z1⟩ := hS.cells
  clear hS
  by_cases ha : bits .and .i64 a.on a.off = 0
  case neg =>
    have ta : (bits .and .i64 a.on a.off == 0) = false := by simpa using ha
    clear ha
    go_wp2_with fail
    refine (apart_law a _).mono ?_
    rw [ta]
    rintro e w2 ⟨rfl, hb⟩
    have HS2 := Lib.hid (HS.out.below hb)
    clear hb x0 x1 x2 y0 y1 y2 u0 u1 u2 z0 z1
    go_wp2_with fail
    go_ret
    exact ⟨rfl, by rw [HBq.out]; exact HS2.out.1⟩
  have ta : (bits .and .i64 a.on a.off == 0) = true := by simpa using ha
  have Ha := Lib.hid ((apart_iff a).1 ha)
  clear ha
  go_wp2_with fail
  refine (apart_law a _).mono ?_
  rw [ta]
  rintro e w2 ⟨rfl, hb⟩
  replace HS := Lib.hid (HS.out.below hb)
  clear hb x0 x1 x2 y0 y1 y2 u0 u1 u2 z0 z1 ta
  have hS := HS.out
  obtain ⟨x0, x1, x2, y0, y1, y2, u0, u1, u2, z0, z1⟩ := hS.cells
  clear hS
  by_cases hb : bits .and .i64 b.on b.off = 0
  case neg =>
    have tb : (bits .and .i64 b.on b.off == 0) = false := by simpa using hb
    clear hb
    go_wp2_with fail
    refine (apart_law b _).mono ?_
    rw [tb]
    rintro e w3 ⟨rfl, hb⟩
    have HS2 := Lib.hid (HS.out.below hb)
    clear hb x0 x1 x2 y0 y1 y2 u0 u1 u2 z0 z1
    go_wp2_with fail
    go_ret
    exact ⟨rfl, by rw [HBq.out]; exact HS2.out.1⟩
  have tb : (bits .and .i64 b.on b.off == 0) = true := by simpa using hb
  have Hb := Lib.hid ((apart_iff b).1 hb)
  clear hb
  go_wp2_with fail
  refine (apart_law b _).mono ?_
  rw [tb]
  rintro e w3 ⟨rfl, hb⟩
  replace HS := Lib.hid (HS.out.below hb)
  clear hb x0 x1 x2 y0 y1 y2 u0 u1 u2 z0 z1 tb
  have hS := HS.out
  obtain ⟨x0, x1, x2, y0, y1, y2, u0, u1, u2, z0, z1⟩ := hS.cells
  clear hS
  by_cases hc : bits .and .i64 c.on c.off = 0
  case neg =>
    have tc : (bits .and .i64 c.on c.off == 0) = false := by simpa using hc
    clear hc
    go_wp2_with fail
    refine (apart_law c _).mono ?_
    rw [tc]
    rintro e w4 ⟨rfl, hb⟩
    have HS2 := Lib.hid (HS.out.below hb)
    clear hb x0 x1 x2 y0 y1 y2 u0 u1 u2 z0 z1
    go_wp2_with fail
    go_ret
    exact ⟨rfl, by rw [HBq.out]; exact HS2.out.1⟩
  have tc : (bits .and .i64 c.on c.off == 0) = true := by simpa using hc
  have Hc := Lib.hid ((apart_iff c).1 hc)
  clear hc
  go_wp2_with fail
  refine (apart_law c _).mono ?_
  rw [tc]
  rintro e w4 ⟨rfl, hb⟩
  replace HS := Lib.hid (HS.out.below hb)
  clear hb x0 x1 x2 y0 y1 y2 u0 u1 u2 z0 z1 tc
  have C1 := Lib.hid (show ∀ w, Calls Tryd.prog 10 #[lkVal (applyL l a), chgVal b] w (Says (lkVal (applyL l (thenC a b))) w) from fun w => by
    have := apply_pro (applyL l a) b w
    rw [apply_then l a b Ha.out Hb.out] at this
    exact this)
  have C2 := Lib.hid (show ∀ w, Calls Tryd.prog 7 #[chgVal (thenC a b), chgVal c] w (Says (chgVal (thenC a (thenC b c))) w) from fun w => by
    have := then_pro (thenC a b) c w
    rw [then_assoc a b c Hb.out Hc.out] at this
    exact this)
  go_wp2_with fail
  have hS : SC B a b c l W (w4.alloc (.cells #[.int .i64 0, .int .i64 0, .int .i64 (-1)] 23)) ∧ (w4.alloc (.cells #[.int .i64 0, .int .i64 0, .int .i64 (-1)] 23)).heap[w4.heap.size]? = some (.cells #[.int .i64 0, .int .i64 0, .int .i64 (-1)] 23 (0, 0)) := ⟨HS.out.below ((Below.refl _ w4).alloc (Nat.le_refl _) _), heap_alloc_new w4 _⟩
  obtain ⟨N, hN⟩ : ∃ N, w4.heap.size = N := ⟨_, rfl⟩
  obtain ⟨w5, hw5⟩ : ∃ w5, w4.alloc (.cells #[.int .i64 0, .int .i64 0, .int .i64 (-1)] 23) = w5 := ⟨_, rfl⟩
  rw [hw5, hN] at hS ⊢
  clear hw5 hN HS
  have hS1 : SC B a b c l W w5.drew ∧ w5.drew.heap[N]? = some (.cells #[.int .i64 0, .int .i64 0, .int .i64 (-1)] 23 (0, 0)) := ⟨hS.1.below (Below.refl _ _).drew, hS.2⟩
  refine wp_region_held_drew (S := fun w' => SC B a b c l W w' ∧ w'.heap[N]? = some (.cells #[.int .i64 0, .int .i64 0, .int .i64 (-1)] 23 (0, 0))) (by kernel_rfl) hS1 (fun hS => ?_)
  clear hS1
  refine wpAnyH_take (i := 0) (v := .agg #[.int .i64 l.att, .int .i64 l.col]) rfl (by kernel_rfl) (by kernel_rfl) (by kernel_rfl) (fun _ _ _ h => h) (.inl ⟨by kernel_rfl, fun w' hS => by obtain ⟨x0, x1, x2, y0, y1, y2, u0, u1, u2, z0, z1⟩ := hS.1.cells; obtain ⟨n0, n1, n2⟩ := none_cells hS.2; go_simp⟩) hS ?_
  try simp only [Act.put, List.setIfInBounds_toArray, List.set_cons_zero, List.set_cons_succ]
  refine wpAnyH_take (i := 1) (v := .agg #[.int .i64 a.on, .int .i64 a.off, .int .i64 a.col]) rfl (by kernel_rfl) (by kernel_rfl) (by kernel_rfl) (fun _ _ _ h => h) (.inl ⟨by kernel_rfl, fun w' hS => by obtain ⟨x0, x1, x2, y0, y1, y2, u0, u1, u2, z0, z1⟩ := hS.1.cells; obtain ⟨n0, n1, n2⟩ := none_cells hS.2; go_simp⟩) hS ?_
  try simp only [Act.put, List.setIfInBounds_toArray, List.set_cons_zero, List.set_cons_succ]
  refine wpAnyH_take (i := 3) (v := .agg #[.int .i64 b.on, .int .i64 b.off, .int .i64 b.col]) rfl (by kernel_rfl) (by kernel_rfl) (by kernel_rfl) (fun _ _ _ h => h) (.inl ⟨by kernel_rfl, fun w' hS => by obtain ⟨x0, x1, x2, y0, y1, y2, u0, u1, u2, z0, z1⟩ := hS.1.cells; obtain ⟨n0, n1, n2⟩ := none_cells hS.2; go_simp⟩) hS ?_
  try simp only [Act.put, List.setIfInBounds_toArray, List.set_cons_zero, List.set_cons_succ]
  refine wpAnyH_take (i := 5) (v := .agg #[.int .i64 l.att, .int .i64 l.col]) rfl (by kernel_rfl) (by kernel_rfl) (by kernel_rfl) (fun _ _ _ h => h) (.inl ⟨by kernel_rfl, fun w' hS => by obtain ⟨x0, x1, x2, y0, y1, y2, u0, u1, u2, z0, z1⟩ := hS.1.cells; obtain ⟨n0, n1, n2⟩ := none_cells hS.2; go_simp⟩) hS ?_
  try simp only [Act.put, List.setIfInBounds_toArray, List.set_cons_zero, List.set_cons_succ]
  refine wpAnyH_take (i := 6) (v := .agg #[.int .i64 a.on, .int .i64 a.off, .int .i64 a.col]) rfl (by kernel_rfl) (by kernel_rfl) (by kernel_rfl) (fun _ _ _ h => h) (.inl ⟨by kernel_rfl, fun w' hS => by obtain ⟨x0, x1, x2, y0, y1, y2, u0, u1, u2, z0, z1⟩ := hS.1.cells; obtain ⟨n0, n1, n2⟩ := none_cells hS.2; go_simp⟩) hS ?_
  try simp only [Act.put, List.setIfInBounds_toArray, List.set_cons_zero, List.set_cons_succ]
  refine wpAnyH_take (i := 7) (v := .agg #[.int .i64 b.on, .int .i64 b.off, .int .i64 b.col]) rfl (by kernel_rfl) (by kernel_rfl) (by kernel_rfl) (fun _ _ _ h => h) (.inl ⟨by kernel_rfl, fun w' hS => by obtain ⟨x0, x1, x2, y0, y1, y2, u0, u1, u2, z0, z1⟩ := hS.1.cells; obtain ⟨n0, n1, n2⟩ := none_cells hS.2; go_simp⟩) hS ?_
  try simp only [Act.put, List.setIfInBounds_toArray, List.set_cons_zero, List.set_cons_succ]
  refine wpAnyH_one (i := 2) (by kernel_rfl) rfl (by kernel_rfl) (fun K hK => ?_)
  go_simp
  refine (apply_pro l a _).mono ?_
  rintro e w6 ⟨rfl, hb⟩
  replace hS : SC B a b c l W w6 ∧ w6.heap[N]? = some (.cells #[.int .i64 0, .int .i64 0, .int .i64 (-1)] 23 (0, 0)) := ⟨hS.1.below hb, (hb.block N (Array.getElem?_eq_some_iff.1 hS.2).1).trans hS.2⟩
  clear hb
  refine hK _ _ hS ?_
  clear hK K
  refine wpAnyH_one (i := 4) (by kernel_rfl) rfl (by kernel_rfl) (fun K hK => ?_)
  go_simp
  refine (C1.out _).mono ?_
  rintro e w7 ⟨rfl, hb⟩
  replace hS : SC B a b c l W w7 ∧ w7.heap[N]? = some (.cells #[.int .i64 0, .int .i64 0, .int .i64 (-1)] 23 (0, 0)) := ⟨hS.1.below hb, (hb.block N (Array.getElem?_eq_some_iff.1 hS.2).1).trans hS.2⟩
  clear hb
  refine hK _ _ hS ?_
  clear hK K
  refine wpAnyH_one (i := 8) (by kernel_rfl) rfl (by kernel_rfl) (fun K hK => ?_)
  go_simp
  refine (then_pro a b _).mono ?_
  rintro e w8 ⟨rfl, hb⟩
  replace hS : SC B a b c l W w8 ∧ w8.heap[N]? = some (.cells #[.int .i64 0, .int .i64 0, .int .i64 (-1)] 23 (0, 0)) := ⟨hS.1.below hb, (hb.block N (Array.getElem?_eq_some_iff.1 hS.2).1).trans hS.2⟩
  clear hb
  refine hK _ _ hS ?_
  clear hK K
  refine wpAnyH_one (i := 9) (by kernel_rfl) rfl (by kernel_rfl) (fun K hK => ?_)
  go_simp
  refine (apply_pro l (thenC a b) _).mono ?_
  rintro e w9 ⟨rfl, hb⟩
  replace hS : SC B a b c l W w9 ∧ w9.heap[N]? = some (.cells #[.int .i64 0, .int .i64 0, .int .i64 (-1)] 23 (0, 0)) := ⟨hS.1.below hb, (hb.block N (Array.getElem?_eq_some_iff.1 hS.2).1).trans hS.2⟩
  clear hb
  refine hK _ _ hS ?_
  clear hK K
  refine wpAnyH_one (i := 10) (by kernel_rfl) rfl (by kernel_rfl) (fun K hK => ?_)
  go_simp
  refine (look_law (applyL l (thenC a b)) _).mono ?_
  rintro e w10 ⟨rfl, hb⟩
  replace hS : SC B a b c l W w10 ∧ w10.heap[N]? = some (.cells #[.int .i64 0, .int .i64 0, .int .i64 (-1)] 23 (0, 0)) := ⟨hS.1.below hb, (hb.block N (Array.getElem?_eq_some_iff.1 hS.2).1).trans hS.2⟩
  clear hb
  refine hK _ _ hS ?_
  clear hK K
  refine wpAnyH_take (i := 11) (v := .bool true) rfl (by kernel_rfl) (by kernel_rfl) (by kernel_rfl) (fun _ _ _ h => h) (.inl ⟨by kernel_rfl, fun w' hS => by go_simp⟩) hS ?_
  try simp only [Act.put, List.setIfInBounds_toArray, List.set_cons_zero, List.set_cons_succ]
  refine wpAnyH_take (i := 12) (v := .agg #[.int .i64 a.on, .int .i64 a.off, .int .i64 a.col]) rfl (by kernel_rfl) (by kernel_rfl) (by kernel_rfl) (fun _ _ _ h => h) (.inl ⟨by kernel_rfl, fun w' hS => by obtain ⟨x0, x1, x2, y0, y1, y2, u0, u1, u2, z0, z1⟩ := hS.1.cells; obtain ⟨n0, n1, n2⟩ := none_cells hS.2; go_simp⟩) hS ?_
  try simp only [Act.put, List.setIfInBounds_toArray, List.set_cons_zero, List.set_cons_succ]
  refine wpAnyH_take (i := 13) (v := .agg #[.int .i64 b.on, .int .i64 b.off, .int .i64 b.col]) rfl (by kernel_rfl) (by kernel_rfl) (by kernel_rfl) (fun _ _ _ h => h) (.inl ⟨by kernel_rfl, fun w' hS => by obtain ⟨x0, x1, x2, y0, y1, y2, u0, u1, u2, z0, z1⟩ := hS.1.cells; obtain ⟨n0, n1, n2⟩ := none_cells hS.2; go_simp⟩) hS ?_
  try simp only [Act.put, List.setIfInBounds_toArray, List.set_cons_zero, List.set_cons_succ]
  refine wpAnyH_take (i := 15) (v := .agg #[.int .i64 c.on, .int .i64 c.off, .int .i64 c.col]) rfl (by kernel_rfl) (by kernel_rfl) (by kernel_rfl) (fun _ _ _ h => h) (.inl ⟨by kernel_rfl, fun w' hS => by obtain ⟨x0, x1, x2, y0, y1, y2, u0, u1, u2, z0, z1⟩ := hS.1.cells; obtain ⟨n0, n1, n2⟩ := none_cells hS.2; go_simp⟩) hS ?_
  try simp only [Act.put, List.setIfInBounds_toArray, List.set_cons_zero, List.set_cons_succ]
  refine wpAnyH_take (i := 17) (v := .agg #[.int .i64 a.on, .int .i64 a.off, .int .i64 a.col]) rfl (by kernel_rfl) (by kernel_rfl) (by kernel_rfl) (fun _ _ _ h => h) (.inl ⟨by kernel_rfl, fun w' hS => by obtain ⟨x0, x1, x2, y0, y1, y2, u0, u1, u2, z0, z1⟩ := hS.1.cells; obtain ⟨n0, n1, n2⟩ := none_cells hS.2; go_simp⟩) hS ?_
  try simp only [Act.put, List.setIfInBounds_toArray, List.set_cons_zero, List.set_cons_succ]
  refine wpAnyH_take (i := 18) (v := .agg #[.int .i64 b.on, .int .i64 b.off, .int .i64 b.col]) rfl (by kernel_rfl) (by kernel_rfl) (by kernel_rfl) (fun _ _ _ h => h) (.inl ⟨by kernel_rfl, fun w' hS => by obtain ⟨x0, x1, x2, y0, y1, y2, u0, u1, u2, z0, z1⟩ := hS.1.cells; obtain ⟨n0, n1, n2⟩ := none_cells hS.2; go_simp⟩) hS ?_
  try simp only [Act.put, List.setIfInBounds_toArray, List.set_cons_zero, List.set_cons_succ]
  refine wpAnyH_take (i := 19) (v := .agg #[.int .i64 c.on, .int .i64 c.off, .int .i64 c.col]) rfl (by kernel_rfl) (by kernel_rfl) (by kernel_rfl) (fun _ _ _ h => h) (.inl ⟨by kernel_rfl, fun w' hS => by obtain ⟨x0, x1, x2, y0, y1, y2, u0, u1, u2, z0, z1⟩ := hS.1.cells; obtain ⟨n0, n1, n2⟩ := none_cells hS.2; go_simp⟩) hS ?_
  try simp only [Act.put, List.setIfInBounds_toArray, List.set_cons_zero, List.set_cons_succ]
  refine wpAnyH_one (i := 14) (by kernel_rfl) rfl (by kernel_rfl) (fun K hK => ?_)
  go_simp
  refine (then_pro a b _).mono ?_
  rintro e w11 ⟨rfl, hb⟩
  replace hS : SC B a b c l W w11 ∧ w11.heap[N]? = some (.cells #[.int .i64 0, .int .i64 0, .int .i64 (-1)] 23 (0, 0)) := ⟨hS.1.below hb, (hb.block N (Array.getElem?_eq_some_iff.1 hS.2).1).trans hS.2⟩
  clear hb
  refine hK _ _ hS ?_
  clear hK K
  refine wpAnyH_one (i := 16) (by kernel_rfl) rfl (by kernel_rfl) (fun K hK => ?_)
  go_simp
  refine (C2.out _).mono ?_
  rintro e w12 ⟨rfl, hb⟩
  replace hS : SC B a b c l W w12 ∧ w12.heap[N]? = some (.cells #[.int .i64 0, .int .i64 0, .int .i64 (-1)] 23 (0, 0)) := ⟨hS.1.below hb, (hb.block N (Array.getElem?_eq_some_iff.1 hS.2).1).trans hS.2⟩
  clear hb
  refine hK _ _ hS ?_
  clear hK K
  refine wpAnyH_one (i := 20) (by kernel_rfl) rfl (by kernel_rfl) (fun K hK => ?_)
  go_simp
  refine (then_pro b c _).mono ?_
  rintro e w13 ⟨rfl, hb⟩
  replace hS : SC B a b c l W w13 ∧ w13.heap[N]? = some (.cells #[.int .i64 0, .int .i64 0, .int .i64 (-1)] 23 (0, 0)) := ⟨hS.1.below hb, (hb.block N (Array.getElem?_eq_some_iff.1 hS.2).1).trans hS.2⟩
  clear hb
  refine hK _ _ hS ?_
  clear hK K
  refine wpAnyH_one (i := 21) (by kernel_rfl) rfl (by kernel_rfl) (fun K hK => ?_)
  go_simp
  refine (then_pro a (thenC b c) _).mono ?_
  rintro e w14 ⟨rfl, hb⟩
  replace hS : SC B a b c l W w14 ∧ w14.heap[N]? = some (.cells #[.int .i64 0, .int .i64 0, .int .i64 (-1)] 23 (0, 0)) := ⟨hS.1.below hb, (hb.block N (Array.getElem?_eq_some_iff.1 hS.2).1).trans hS.2⟩
  clear hb
  refine hK _ _ hS ?_
  clear hK K
  refine wpAnyH_one (i := 22) (by kernel_rfl) rfl (by kernel_rfl) (fun K hK => ?_)
  go_simp
  refine (same_law (thenC a (thenC b c)) _).mono ?_
  rintro e w15 ⟨rfl, hb⟩
  replace hS : SC B a b c l W w15 ∧ w15.heap[N]? = some (.cells #[.int .i64 0, .int .i64 0, .int .i64 (-1)] 23 (0, 0)) := ⟨hS.1.below hb, (hb.block N (Array.getElem?_eq_some_iff.1 hS.2).1).trans hS.2⟩
  clear hb
  refine hK _ _ hS ?_
  clear hK K
  refine wpAnyH_take (i := 23) (v := .bool true) rfl (by kernel_rfl) (by kernel_rfl) (by kernel_rfl) (fun _ _ _ h => h) (.inl ⟨by kernel_rfl, fun w' hS => by go_simp⟩) hS ?_
  try simp only [Act.put, List.setIfInBounds_toArray, List.set_cons_zero, List.set_cons_succ]
  refine wpAnyH_take (i := 24) (v := .bool true) rfl (by kernel_rfl) (by kernel_rfl) (by kernel_rfl) (fun _ _ _ h => h) (.inl ⟨by kernel_rfl, fun w' hS => by go_simp⟩) hS ?_
  try simp only [Act.put, List.setIfInBounds_toArray, List.set_cons_zero, List.set_cons_succ]
  refine wpAnyH_take (i := 25) (v := .agg #[.int .i64 a.on, .int .i64 a.off, .int .i64 a.col]) rfl (by kernel_rfl) (by kernel_rfl) (by kernel_rfl) (fun _ _ _ h => h) (.inl ⟨by kernel_rfl, fun w' hS => by obtain ⟨x0, x1, x2, y0, y1, y2, u0, u1, u2, z0, z1⟩ := hS.1.cells; obtain ⟨n0, n1, n2⟩ := none_cells hS.2; go_simp⟩) hS ?_
  try simp only [Act.put, List.setIfInBounds_toArray, List.set_cons_zero, List.set_cons_succ]
  refine wpAnyH_take (i := 26) (v := .agg #[.int .i64 0, .int .i64 0, .int .i64 (-1)]) rfl (by kernel_rfl) (by kernel_rfl) (by kernel_rfl) (fun _ _ _ h => h) (.inl ⟨by kernel_rfl, fun w' hS => by obtain ⟨x0, x1, x2, y0, y1, y2, u0, u1, u2, z0, z1⟩ := hS.1.cells; obtain ⟨n0, n1, n2⟩ := none_cells hS.2; go_simp⟩) hS ?_
  try simp only [Act.put, List.setIfInBounds_toArray, List.set_cons_zero, List.set_cons_succ]
  refine wpAnyH_take (i := 28) (v := .agg #[.int .i64 a.on, .int .i64 a.off, .int .i64 a.col]) rfl (by kernel_rfl) (by kernel_rfl) (by kernel_rfl) (fun _ _ _ h => h) (.inl ⟨by kernel_rfl, fun w' hS => by obtain ⟨x0, x1, x2, y0, y1, y2, u0, u1, u2, z0, z1⟩ := hS.1.cells; obtain ⟨n0, n1, n2⟩ := none_cells hS.2; go_simp⟩) hS ?_
  try simp only [Act.put, List.setIfInBounds_toArray, List.set_cons_zero, List.set_cons_succ]
  refine wpAnyH_one (i := 27) (by kernel_rfl) rfl (by kernel_rfl) (fun K hK => ?_)
  go_simp
  refine (C3.out _).mono ?_
  rintro e w16 ⟨rfl, hb⟩
  replace hS : SC B a b c l W w16 ∧ w16.heap[N]? = some (.cells #[.int .i64 0, .int .i64 0, .int .i64 (-1)] 23 (0, 0)) := ⟨hS.1.below hb, (hb.block N (Array.getElem?_eq_some_iff.1 hS.2).1).trans hS.2⟩
  clear hb
  refine hK _ _ hS ?_
  clear hK K
  refine wpAnyH_one (i := 29) (by kernel_rfl) rfl (by kernel_rfl) (fun K hK => ?_)
  go_simp
  refine (same_law a _).mono ?_
  rintro e w17 ⟨rfl, hb⟩
  replace hS : SC B a b c l W w17 ∧ w17.heap[N]? = some (.cells #[.int .i64 0, .int .i64 0, .int .i64 (-1)] 23 (0, 0)) := ⟨hS.1.below hb, (hb.block N (Array.getElem?_eq_some_iff.1 hS.2).1).trans hS.2⟩
  clear hb
  refine hK _ _ hS ?_
  clear hK K
  refine wpAnyH_take (i := 30) (v := .bool true) rfl (by kernel_rfl) (by kernel_rfl) (by kernel_rfl) (fun _ _ _ h => h) (.inl ⟨by kernel_rfl, fun w' hS => by go_simp⟩) hS ?_
  try simp only [Act.put, List.setIfInBounds_toArray, List.set_cons_zero, List.set_cons_succ]
  refine wpAnyH_take (i := 31) (v := .bool true) rfl (by kernel_rfl) (by kernel_rfl) (by kernel_rfl) (fun _ _ _ h => h) (.inl ⟨by kernel_rfl, fun w' hS => by go_simp⟩) hS ?_
  try simp only [Act.put, List.setIfInBounds_toArray, List.set_cons_zero, List.set_cons_succ]
  refine wpAnyH_take (i := 32) (v := .agg #[.int .i64 0, .int .i64 0, .int .i64 (-1)]) rfl (by kernel_rfl) (by kernel_rfl) (by kernel_rfl) (fun _ _ _ h => h) (.inl ⟨by kernel_rfl, fun w' hS => by obtain ⟨x0, x1, x2, y0, y1, y2, u0, u1, u2, z0, z1⟩ := hS.1.cells; obtain ⟨n0, n1, n2⟩ := none_cells hS.2; go_simp⟩) hS ?_
  try simp only [Act.put, List.setIfInBounds_toArray, List.set_cons_zero, List.set_cons_succ]
  refine wpAnyH_take (i := 33) (v := .agg #[.int .i64 a.on, .int .i64 a.off, .int .i64 a.col]) rfl (by kernel_rfl) (by kernel_rfl) (by kernel_rfl) (fun _ _ _ h => h) (.inl ⟨by kernel_rfl, fun w' hS => by obtain ⟨x0, x1, x2, y0, y1, y2, u0, u1, u2, z0, z1⟩ := hS.1.cells; obtain ⟨n0, n1, n2⟩ := none_cells hS.2; go_simp⟩) hS ?_
  try simp only [Act.put, List.setIfInBounds_toArray, List.set_cons_zero, List.set_cons_succ]
  refine wpAnyH_take (i := 35) (v := .agg #[.int .i64 a.on, .int .i64 a.off, .int .i64 a.col]) rfl (by kernel_rfl) (by kernel_rfl) (by kernel_rfl) (fun _ _ _ h => h) (.inl ⟨by kernel_rfl, fun w' hS => by obtain ⟨x0, x1, x2, y0, y1, y2, u0, u1, u2, z0, z1⟩ := hS.1.cells; obtain ⟨n0, n1, n2⟩ := none_cells hS.2; go_simp⟩) hS ?_
  try simp only [Act.put, List.setIfInBounds_toArray, List.set_cons_zero, List.set_cons_succ]
  refine wpAnyH_one (i := 34) (by kernel_rfl) rfl (by kernel_rfl) (fun K hK => ?_)
  go_simp
  refine (C4.out _).mono ?_
  rintro e w18 ⟨rfl, hb⟩
  replace hS : SC B a b c l W w18 ∧ w18.heap[N]? = some (.cells #[.int .i64 0, .int .i64 0, .int .i64 (-1)] 23 (0, 0)) := ⟨hS.1.below hb, (hb.block N (Array.getElem?_eq_some_iff.1 hS.2).1).trans hS.2⟩
  clear hb
  refine hK _ _ hS ?_
  clear hK K
  refine wpAnyH_one (i := 36) (by kernel_rfl) rfl (by kernel_rfl) (fun K hK => ?_)
  go_simp
  refine (same_law a _).mono ?_
  rintro e w19 ⟨rfl, hb⟩
  replace hS : SC B a b c l W w19 ∧ w19.heap[N]? = some (.cells #[.int .i64 0, .int .i64 0, .int .i64 (-1)] 23 (0, 0)) := ⟨hS.1.below hb, (hb.block N (Array.getElem?_eq_some_iff.1 hS.2).1).trans hS.2⟩
  clear hb
  refine hK _ _ hS ?_
  clear hK K
  refine wpAnyH_take (i := 37) (v := .bool true) rfl (by kernel_rfl) (by kernel_rfl) (by kernel_rfl) (fun _ _ _ h => h) (.inl ⟨by kernel_rfl, fun w' hS => by go_simp⟩) hS ?_
  try simp only [Act.put, List.setIfInBounds_toArray, List.set_cons_zero, List.set_cons_succ]
  refine wpAnyH_take (i := 38) (v := .bool true) rfl (by kernel_rfl) (by kernel_rfl) (by kernel_rfl) (fun _ _ _ h => h) (.inl ⟨by kernel_rfl, fun w' hS => by go_simp⟩) hS ?_
  try simp only [Act.put, List.setIfInBounds_toArray, List.set_cons_zero, List.set_cons_succ]
  refine wpAnyH_take (i := 39) (v := .agg #[.int .i64 l.att, .int .i64 l.col]) rfl (by kernel_rfl) (by kernel_rfl) (by kernel_rfl) (fun _ _ _ h => h) (.inl ⟨by kernel_rfl, fun w' hS => by obtain ⟨x0, x1, x2, y0, y1, y2, u0, u1, u2, z0, z1⟩ := hS.1.cells; obtain ⟨n0, n1, n2⟩ := none_cells hS.2; go_simp⟩) hS ?_
  try simp only [Act.put, List.setIfInBounds_toArray, List.set_cons_zero, List.set_cons_succ]
  refine wpAnyH_take (i := 40) (v := .agg #[.int .i64 0, .int .i64 0, .int .i64 (-1)]) rfl (by kernel_rfl) (by kernel_rfl) (by kernel_rfl) (fun _ _ _ h => h) (.inl ⟨by kernel_rfl, fun w' hS => by obtain ⟨x0, x1, x2, y0, y1, y2, u0, u1, u2, z0, z1⟩ := hS.1.cells; obtain ⟨n0, n1, n2⟩ := none_cells hS.2; go_simp⟩) hS ?_
  try simp only [Act.put, List.setIfInBounds_toArray, List.set_cons_zero, List.set_cons_succ]
  refine wpAnyH_take (i := 42) (v := .agg #[.int .i64 l.att, .int .i64 l.col]) rfl (by kernel_rfl) (by kernel_rfl) (by kernel_rfl) (fun _ _ _ h => h) (.inl ⟨by kernel_rfl, fun w' hS => by obtain ⟨x0, x1, x2, y0, y1, y2, u0, u1, u2, z0, z1⟩ := hS.1.cells; obtain ⟨n0, n1, n2⟩ := none_cells hS.2; go_simp⟩) hS ?_
  try simp only [Act.put, List.setIfInBounds_toArray, List.set_cons_zero, List.set_cons_succ]
  refine wpAnyH_one (i := 41) (by kernel_rfl) rfl (by kernel_rfl) (fun K hK => ?_)
  go_simp
  refine (C5.out _).mono ?_
  rintro e w20 ⟨rfl, hb⟩
  replace hS : SC B a b c l W w20 ∧ w20.heap[N]? = some (.cells #[.int .i64 0, .int .i64 0, .int .i64 (-1)] 23 (0, 0)) := ⟨hS.1.below hb, (hb.block N (Array.getElem?_eq_some_iff.1 hS.2).1).trans hS.2⟩
  clear hb
  refine hK _ _ hS ?_
  clear hK K
  refine wpAnyH_one (i := 43) (by kernel_rfl) rfl (by kernel_rfl) (fun K hK => ?_)
  go_simp
  refine (look_law l _).mono ?_
  rintro e w21 ⟨rfl, hb⟩
  replace hS : SC B a b c l W w21 ∧ w21.heap[N]? = some (.cells #[.int .i64 0, .int .i64 0, .int .i64 (-1)] 23 (0, 0)) := ⟨hS.1.below hb, (hb.block N (Array.getElem?_eq_some_iff.1 hS.2).1).trans hS.2⟩
  clear hb
  refine hK _ _ hS ?_
  clear hK K
  refine wpAnyH_take (i := 44) (v := .bool true) rfl (by kernel_rfl) (by kernel_rfl) (by kernel_rfl) (fun _ _ _ h => h) (.inl ⟨by kernel_rfl, fun w' hS => by go_simp⟩) hS ?_
  try simp only [Act.put, List.setIfInBounds_toArray, List.set_cons_zero, List.set_cons_succ]
  refine wpAnyH_one (i := 45) (by kernel_rfl) rfl (by kernel_rfl) (fun K hK => ?_)
  go_simp
  refine hK _ _ hS ?_
  clear hK K
  refine wpAnyH_done (by kernel_rfl) ?_ _
  go_wp2_with fail
  go_ret
  exact ⟨rfl, by rw [HBq.out]; exact hS.1.1⟩

set_option maxRecDepth 100000 in
theorem contract (H : Type) (enc : TypeId × Value → H) (W : World) (base : Nat) (args : Array Value) (ds gs : List (DataW H)) (before : List MemPlace)
    (hval : ∀ (j : Nat) t v, Tryd.f4.params[j]? = some t → args[j]? = some v → Value.okWide Tryd.prog W .any base t v)
    (hW : DataW.Whole enc Tryd.prog Tryd.f4.params.toList Rows.styleAssociatesSpec.vars false W args.toList ds gs before) (hsz0 : (DataW.weightsEach Tryd.prog (Tryd.f4.params.toList ++ Rows.styleAssociatesSpec.plain.varTypes Tryd.prog) (ds ++ gs)).all (· ≤ reachBytes) = true) (hT : Tabs W) :
    Calls Tryd.prog 4 args W fun e W' => ∃ v, e = .returned v ∧ Rows.styleAssociatesSpec.post enc Tryd.prog Tryd.f4 false true false false W args v W' := by
  have hW' := hW
  obtain ⟨p, q, hA0, hV, rfl, hfz, hnd⟩ := hW
  have hA : DataW.TrodAll enc Tryd.prog W 0 (fun _ => true) true Tryd.f4.params.toList args.toList ds p := hA0
  rw [Tryd.params4] at hA hval
  have hsz := hsz0
  rw [Tryd.params4] at hsz
  clear hsz0
  obtain ⟨v0, vs0, d0, ds0, p0, q0, hargs, rfl, rfl, h0, r0⟩ := trodAll_cons hA
  obtain ⟨v1, vs1, d1, ds1, p1, q1, rfl, rfl, rfl, h1, r1⟩ := trodAll_cons r0
  obtain ⟨v2, vs2, d2, ds2, p2, q2, rfl, rfl, rfl, h2, r2⟩ := trodAll_cons r1
  obtain ⟨v3, vs3, d3, ds3, p3, q3, rfl, rfl, rfl, h3, r3⟩ := trodAll_cons r2
  obtain ⟨rfl, rfl, rfl⟩ := trodAll_nil r3
  obtain rfl : args = #[v0, v1, v2, v3] := by cases args; simp_all
  obtain ⟨rfl, rfl⟩ := trodVars_none hV
  have hk0 := h0
  obtain ⟨c0, rfl, hc0⟩ := chg_read h0 (hval 0 23 v0 rfl rfl)
  have hk1 := h1
  obtain ⟨c1, rfl, hc1⟩ := chg_read h1 (hval 1 23 v1 rfl rfl)
  have hk2 := h2
  obtain ⟨c2, rfl, hc2⟩ := chg_read h2 (hval 2 23 v2 rfl rfl)
  have hk3 := h3
  obtain ⟨c3, rfl, hc3⟩ := lk_read h3 (hval 3 25 v3 rfl rfl)
  clear hA0
  refine (walk c0 c1 c2 c3 W hc0 hc1 hc2 hc3 hT).mono fun e W' ⟨he, hg⟩ => ?_
  subst he
  have hlt := hW'.lt
  exact ⟨_, rfl, post_of_below (pa := (p0 ++ (p1 ++ (p2 ++ (p3 ++ []))))) (pv := []) hW' (fun _ _ _ => trodAll_cons_mk (shut_bool Tryd.underlying4 _) trodAll_mk0) (fun sp hsp => (trodAll_cons_mk (Go.WideElems.Trod_stays (by kernel_rfl) (by kernel_rfl) (of_decide_eq_true (by kernel_rfl)) hk0 (fun p hp => hg.same (hlt p (by simp [hp]))) (fun p hp => hsp p (by simp [hp]))) (trodAll_cons_mk (Go.WideElems.Trod_stays (by kernel_rfl) (by kernel_rfl) (of_decide_eq_true (by kernel_rfl)) hk1 (fun p hp => hg.same (hlt p (by simp [hp]))) (fun p hp => hsp p (by simp [hp]))) (trodAll_cons_mk (Go.WideElems.Trod_stays (by kernel_rfl) (by kernel_rfl) (of_decide_eq_true (by kernel_rfl)) hk2 (fun p hp => hg.same (hlt p (by simp [hp]))) (fun p hp => hsp p (by simp [hp]))) (trodAll_cons_mk (Go.WideElems.Trod_stays (by kernel_rfl) (by kernel_rfl) (of_decide_eq_true (by kernel_rfl)) hk3 (fun p hp => hg.same (hlt p (by simp [hp]))) (fun p hp => hsp p (by simp [hp]))) trodAll_mk0))))) (fun _ _ => rfl) rfl hg (ok_one (by kernel_rfl) rfl (okWide_bool_mk Tryd.underlying4 _))⟩

theorem witness_row (os : Os) {H : Type} (enc : TypeId × Value → H) :
    (OpenSpec.ofChange Rows.styleAssociatesSpec).preRow enc Tryd.prog Tryd.f4 Rows.styleAssociatesRow.domain false Rows.styleAssociatesRow.laid ((laidWorld os).forCall (fun _ _ => 0) ⟨#[], #[.agg #[.int .i64 0, .int .i64 0, .int .i64 0], .agg #[.int .i64 0, .int .i64 0, .int .i64 0], .agg #[.int .i64 0, .int .i64 0, .int .i64 0], .agg #[.int .i64 0, .int .i64 0]], []⟩).memory #[.agg #[.int .i64 0, .int .i64 0, .int .i64 0], .agg #[.int .i64 0, .int .i64 0, .int .i64 0], .agg #[.int .i64 0, .int .i64 0, .int .i64 0], .agg #[.int .i64 0, .int .i64 0]] := by
  have hw : (DataW.whole enc Tryd.prog ((laidWorld os).forCall (fun _ _ => 0) ⟨#[], #[.agg #[.int .i64 0, .int .i64 0, .int .i64 0], .agg #[.int .i64 0, .int .i64 0, .int .i64 0], .agg #[.int .i64 0, .int .i64 0, .int .i64 0], .agg #[.int .i64 0, .int .i64 0]], []⟩).memory Tryd.f4.params.toList Rows.styleAssociatesSpec.vars false (#[.agg #[.int .i64 0, .int .i64 0, .int .i64 0], .agg #[.int .i64 0, .int .i64 0, .int .i64 0], .agg #[.int .i64 0, .int .i64 0, .int .i64 0], .agg #[.int .i64 0, .int .i64 0]] : Array Value).toList 8).map (fun x => (x.1, x.2.1)) =
      some ([.agg [.lit (.int .i64 0), .lit (.int .i64 0), .lit (.int .i64 0)], .agg [.lit (.int .i64 0), .lit (.int .i64 0), .lit (.int .i64 0)], .agg [.lit (.int .i64 0), .lit (.int .i64 0), .lit (.int .i64 0)], .agg [.lit (.int .i64 0), .lit (.int .i64 0)]], []) := by kernel_rfl
  obtain ⟨⟨x1, x2, x3⟩, hx, hx1⟩ := Option.map_eq_some_iff.1 hw
  simp only [Prod.mk.injEq] at hx1
  obtain ⟨rfl, rfl⟩ := hx1
  exact OpenSpec.preRow_of_cond 8 hx (by kernel_rfl) (fun k hk => by cases hk) (by kernel_rfl) (laid_met os _)

set_option maxRecDepth 100000 in
theorem lifted (os : Os) (started : os.Started) (H : Type) (enc : TypeId × Value → H) (F : Stop.Interp) :
    ReturnsInHanded {} Tryd.checked os 4 .any ((OpenSpec.ofChange Rows.styleAssociatesSpec).preRow enc Tryd.prog Tryd.f4 Rows.styleAssociatesRow.domain false Rows.styleAssociatesRow.laid) (((OpenSpec.ofChange Rows.styleAssociatesSpec).at F).post enc Tryd.prog Tryd.f4 false true false false) := by
  refine returnsInHanded_of_row (C := Tryd.checked) (s := (OpenSpec.ofChange Rows.styleAssociatesSpec)) own started (by kernel_rfl) Tryd.func4
    (witness_row_at (enc := enc) (C := Tryd.checked) false (laidWorld os) #[.agg #[.int .i64 0, .int .i64 0, .int .i64 0], .agg #[.int .i64 0, .int .i64 0, .int .i64 0], .agg #[.int .i64 0, .int .i64 0, .int .i64 0], .agg #[.int .i64 0, .int .i64 0]] rfl (by kernel_rfl) (by kernel_rfl) (by kernel_rfl) (witness_row os enc)) ?_
  intro W base args ds gs before hval hW _ hcond hsz hL hS _
  exact contract H enc W base args ds gs before hval hW hsz (tabs_of hL hS)

set_option maxHeartbeats 16000000 in
theorem closed : joinedFacts Tryd.pinned.checked.prog 4 Tryd.f4 ((OpenSpec.ofChange Rows.styleAssociatesSpec)).bare Rows.styleAssociatesRow = true := by
  unfold joinedFacts
  repeat' (with_reducible refine Bool.and_eq_true_iff.2 ⟨?_, ?_⟩)
  all_goals (as_aux_lemma => kernel_rfl)
theorem named : Tryd.pinned.checked.prog.funcNamed Rows.styleAssociatesRow.func = some 4 := by kernel_rfl
theorem inst : (Tryd.f4).isInstance Tryd.pinned.checked.prog Rows.styleAssociatesRow.origin Rows.styleAssociatesRow.targs := of_decide_eq_true (by kernel_rfl)
theorem wrap : (Tryd.f4).isWrapper Tryd.pinned.checked.prog Rows.styleAssociatesRow.wrapper Rows.styleAssociatesRow.mainSum := by
  unfold Func.isWrapper
  first | (rw [if_pos (by decide +kernel)]; kernel_rfl) | (rw [if_neg (by decide +kernel)]; exact ⟨rfl, rfl⟩)
theorem row : Rows.StyleAssociatesSaid :=
  OpenClaim.holds_of_cond 4 Tryd.f4 rfl rfl rfl rfl rfl rfl rfl ⟨rfl, rfl, rfl, rfl, rfl⟩ rfl rfl rfl rfl rfl named Tryd.func4 closed inst wrap
    (fun os started H enc _ F => by rw [OpenClaim.pre_eq_preRow]; exact lifted os started H enc F)

theorem plain (f : FuncId) (fn : Func) (hf : Tryd.pinned.checked.prog.funcNamed Rows.styleAssociatesRow.func = some f) (hfn : Tryd.pinned.checked.prog.funcs[f]? = some fn) :
    true = Tryd.pinned.checked.prog.looks [] ∧ ∀ (j : Nat) t, fn.params[j]? = some t → Tryd.pinned.checked.prog.wantsStandIn t = false := by
  obtain rfl : f = 4 := Option.some.inj ((show Tryd.prog.funcNamed Rows.styleAssociatesRow.func = some 4 by kernel_rfl).symm.trans hf) |>.symm
  obtain rfl : fn = Tryd.f4 := (Option.some.inj (Tryd.func4.symm.trans hfn)).symm
  refine ⟨by kernel_rfl, fun j t ht => ?_⟩
  rw [Tryd.params4] at ht
  have hm : t ∈ [23, 23, 23, 25] := by simpa using Array.mem_of_getElem? ht
  simp only [List.mem_cons, List.mem_nil_iff, or_false] at hm
  rcases hm with rfl | rfl | rfl | rfl
  · exact (show Tryd.prog.wantsStandIn 23 = false by kernel_rfl)
  · exact (show Tryd.prog.wantsStandIn 23 = false by kernel_rfl)
  · exact (show Tryd.prog.wantsStandIn 23 = false by kernel_rfl)
  · exact (show Tryd.prog.wantsStandIn 25 = false by kernel_rfl)

theorem proved : Rows.StyleAssociatesCardSaid :=
  Claim7.holds_tied_plain_at .later [] _ _ _ _ row (fun _ h => by cases h) (by kernel_rfl) (fun _ h => by cases h) styleAssociates_row_tie rfl ⟨rfl, rfl⟩ (by kernel_rfl) rfl plain (by kernel_rfl)
end Go.Proofs.YtceanagnkcejgaaDoor.styleAssociates
