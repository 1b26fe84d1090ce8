/- Told of an error that is one fault that was made. -/
import Derived.Test.YtjnnkelbedmccaaFm3
namespace Go.Proofs.Ytjnnkelbedmccaa
open Go.RowKit Go.Shelf
set_option linter.unusedVariables false
attribute [local go_sem] Oper.semAt_some

theorem cells_keep {β : Type} (B : Nat) (cs : Array Value) (t : TypeId) : Own (fun (_ : β) W => W.heap[B]? = some (.cells cs t (0, 0))) := by
  intro s X Y row h hg hr
  refine (hg.block B (Array.getElem?_eq_some_iff.1 h).1 (fun e => ?_)).trans h
  obtain ⟨o, ho, hc⟩ := hr B e.symm
  rw [h] at ho; cases ho; cases hc

theorem zero_cells {w : World} {g : Nat} {t : TypeId} (h : w.heap[g]? = some (.cells #[.int .i64 0, .int .i64 0, .int .i64 0, .int .i64 0, .string ⟨#[]⟩, .slice none 0 0] t (0, 0))) : w.cell? ⟨g, 0, none⟩ = some (.int .i64 0) ∧ w.cell? ⟨g, 1, none⟩ = some (.int .i64 0) ∧ w.cell? ⟨g, 2, none⟩ = some (.int .i64 0) ∧ w.cell? ⟨g, 3, none⟩ = some (.int .i64 0) ∧ w.cell? ⟨g, 4, none⟩ = some (.string ⟨#[]⟩) ∧ w.cell? ⟨g, 5, none⟩ = some (.slice none 0 0) := by
  refine ⟨?_, ?_, ?_, ?_, ?_, ?_⟩ <;> (rw [cell_of_row w g _ _ _ _ h]; rfl)

set_option maxRecDepth 100000 in
set_option maxHeartbeats 2000000 in
theorem toldof_in (g : Nat) (f : Flt) (w : World) (he : Erd w g f) :
    CallsIn Fence.wide 8 Try.prog 43 #[errV g] w fun e W' => e = .returned f.val ∧ Below w.heap.size w W' := by
  have hfc : Fence.wide.fn 58 := trivial
  have hf1 : Fence.wide.fn 63 := trivial
  have hf2 : Fence.wide.fn 59 := trivial
  unfold errV
  refine callsIn_of_wp_marks Try.func43 rfl trivial ?_ rfl
  simp only [Try.ntmps43, List.size_toArray, List.length_cons, List.length_nil, Nat.reduceAdd, Nat.reduceSub, Array.replicate_succ, Array.replicate_zero, List.push_toArray, List.append_toArray, List.nil_append, List.cons_append]
  gi_wp2_with (gi_at_call 58; refine (faults_in _ _ g _ rfl).mono ?_; rintro e w' ⟨rfl, rfl⟩)
  obtain ⟨W0, hW0⟩ : ∃ W0, (w.alloc (.cells #[.int .i64 0, .int .i64 0, .int .i64 0, .int .i64 0, .string ⟨#[]⟩, .slice none 0 0] 77)).alloc (.cells #[errV g] 36) = W0 := ⟨_, rfl⟩
  have XR : W0.heap[w.heap.size]? = some (.cells #[.int .i64 0, .int .i64 0, .int .i64 0, .int .i64 0, .string ⟨#[]⟩, .slice none 0 0] 77 (0, 0)) := by
    rw [← hW0, Below.heap_alloc _ _ _ (by simp)]; exact heap_alloc_new _ _
  have XE : W0.cell? ⟨w.heap.size + 1, 0, none⟩ = some (errV g) := by
    have h := (Boxed.new (w.alloc (.cells #[.int .i64 0, .int .i64 0, .int .i64 0, .int .i64 0, .string ⟨#[]⟩, .slice none 0 0] 77)) 36 (errV g)).cell
    rw [World.size_alloc, hW0] at h; exact h
  have hB0 : Below w.heap.size w W0 := by rw [← hW0]; exact ((Below.refl _ w).alloc (Nat.le_refl _) _).alloc (by simp) _
  have hsz : W0.heap.size = w.heap.size + 2 := by rw [← hW0]; simp
  rw [hW0]
  clear hW0
  refine wpIn_rangeFunc_ownH rfl (by omega) (gf := 63) (lb := #[.pointer (some ⟨w.heap.size + 1, 0, none⟩)]) rfl trivial (enters_of Try.func63 (by kernel_rfl) rfl)
    (faults_stops (8 - 1) (by omega) (w.heap.size + 1) g f W0 XE (he.below hB0)) (fun _ _ => trivial) (fun _ _ _ _ _ _ _ _ => trivial) (Below.refl _ _) (fun _ => rfl)
    (fun pre W => (pre = [] ∧ W.heap[w.heap.size]? = some (.cells #[.int .i64 0, .int .i64 0, .int .i64 0, .int .i64 0, .string ⟨#[]⟩, .slice none 0 0] 77 (0, 0))) ∧ Below w.heap.size w W)
    (fun c pre W => (c = .ret ∧ W.heap[w.heap.size]? = some (.cells #[.int .i64 f.code, .int .i64 f.source, .int .i64 f.line, .int .i64 f.col, .string f.word, .slice none 0 0] 77 (0, 0))) ∧ Below w.heap.size w W)
    (OwnFrom.and (OwnFrom.and (ownFrom_pure _ _) (Own.from (cells_keep _ _ _) _)) (ownFrom_below (Nat.le_refl _) (by omega)))
    (fun c => OwnFrom.and (OwnFrom.and (ownFrom_pure _ _) (Own.from (cells_keep _ _ _) _)) (ownFrom_below (Nat.le_refl _) (by omega)))
    ⟨⟨rfl, XR⟩, hB0⟩
    (fun x a' W => ∃ Bx, w.heap.size + 1 ≤ Bx ∧ W.heap[Bx]? = some (.cells #[.bool false, .int .i64 0, .slice none 0 0] 101 (0, 0)) ∧ a' = { tmps := #[.iface 94 (.pointer (some ⟨g, 0, none⟩)), undef, .pointer (some ⟨w.heap.size, 0, none⟩), .pointer (some ⟨g, 0, none⟩), .pointer (some ⟨Bx, 0, none⟩), .iface 94 (.pointer (some ⟨g, 0, none⟩)), .bool false, undef, .iface 94 (.pointer (some ⟨g, 0, none⟩)), .func (.func 63) #[] #[.pointer (some ⟨w.heap.size + 1, 0, none⟩)], .pointer (some ⟨g, 0, none⟩), .agg #[.bool false, .int .i64 0, .slice none 0 0], undef, undef, undef, undef, undef], defers := [] })
    (fun x a' _ X Y row hs hg hr => by
      obtain ⟨Bx, h1, h2, h3⟩ := hs
      refine ⟨Bx, h1, (hg.block Bx (Array.getElem?_eq_some_iff.1 h2).1 (fun e => ?_)).trans h2, h3⟩
      obtain ⟨_, o, ho, hc⟩ := hr Bx e.symm
      rw [h2] at ho; cases ho; cases hc)
    ?assign ?body ?done ?stop
  case assign =>
    rintro l pre x W K ⟨⟨hp, hR⟩, hB⟩ hK
    unfold noWay
    gi_wp2
    exact hK _ _ ((KeepsOthers.alloc _ _).from _) trivial ⟨⟨hp, (Below.heap_alloc W _ _ (Array.getElem?_eq_some_iff.1 hR).1).trans hR⟩, hB.alloc hB.size _⟩ ⟨W.heap.size, (Array.getElem?_eq_some_iff.1 hR).1, World.alloc_heap_new W _, rfl⟩
  case body =>
    rintro l pre x a' W hl ⟨r, hr⟩ ⟨⟨hp, hR⟩, hB⟩ ⟨Bx, hBx, bC, rfl⟩ hlt
    have heW := he.below hB
    have ZF := Lib.hid (show ∀ w5, Below W.heap.size W w5 → w5.heap[w.heap.size]? = some (.cells #[.int .i64 0, .int .i64 0, .int .i64 0, .int .i64 0, .string ⟨#[]⟩, .slice none 0 0] 77 (0, 0)) from fun w5 h => (h.block _ (Array.getElem?_eq_some_iff.1 hR).1).trans hR)
    have c0 : W.cell? ⟨Bx, 0, none⟩ = some (.bool false) := by simp [World.cell?, bC]
    have c1 : W.cell? ⟨Bx, 1, none⟩ = some (.int .i64 0) := by simp [World.cell?, bC]
    have c2 : W.cell? ⟨Bx, 2, none⟩ = some (.slice none 0 0) := by simp [World.cell?, bC]
    have TP := Lib.hid (told_pro f g W heW)
    unfold noWay at TP
    gi_wp2_with (first | (refine ⟨trivial, ?_⟩; gi_at_call 59; refine (CallsIn.inRound l (callsIn_wide.2 TP.out)).mono ?_; rintro e w5 ⟨rfl, hb5⟩; have XR5 := ZF.out w5 hb5; obtain ⟨z0, z1, z2, z3, z4, z5⟩ := zero_cells XR5; have fz0 := frozen_of_row w5 w.heap.size 0 _ _ XR5; have fz1 := frozen_of_row w5 w.heap.size 1 _ _ XR5; have fz2 := frozen_of_row w5 w.heap.size 2 _ _ XR5; have fz3 := frozen_of_row w5 w.heap.size 3 _ _ XR5; have fz4 := frozen_of_row w5 w.heap.size 4 _ _ XR5; have fz5 := frozen_of_row w5 w.heap.size 5 _ _ XR5; simp only [Flt.val]) | (gi_at_call 59; refine (CallsIn.inRound l (callsIn_wide.2 TP.out)).mono ?_; rintro e w5 ⟨rfl, hb5⟩; have XR5 := ZF.out w5 hb5; obtain ⟨z0, z1, z2, z3, z4, z5⟩ := zero_cells XR5; have fz0 := frozen_of_row w5 w.heap.size 0 _ _ XR5; have fz1 := frozen_of_row w5 w.heap.size 1 _ _ XR5; have fz2 := frozen_of_row w5 w.heap.size 2 _ _ XR5; have fz3 := frozen_of_row w5 w.heap.size 3 _ _ XR5; have fz4 := frozen_of_row w5 w.heap.size 4 _ _ XR5; have fz5 := frozen_of_row w5 w.heap.size 5 _ _ XR5; simp only [Flt.val]))
    have KF : KeepsFrom W0.heap.size W w5 := ⟨hb5.size, fun k o _ hk _ => (hb5.block k (Array.getElem?_eq_some_iff.1 hk).1).trans hk⟩
    exact ⟨KF.trans ((((((KeepsOthers.setCell _ _ _).trans (KeepsOthers.setCell _ _ _)).trans (KeepsOthers.setCell _ _ _)).trans (KeepsOthers.setCell _ _ _)).trans (KeepsOthers.setCell _ _ _)).trans (KeepsOthers.setCell _ _ _) |>.from _), ⟨rfl, told6 w5 w.heap.size (.int .i64 0) (.int .i64 0) (.int .i64 0) (.int .i64 0) (.string ⟨#[]⟩) (.slice none 0 0) (.int .i64 f.code) (.int .i64 f.source) (.int .i64 f.line) (.int .i64 f.col) (.string f.word) (.slice none 0 0) _ XR5⟩, set6_below w5 w.heap.size (.int .i64 f.code) (.int .i64 f.source) (.int .i64 f.line) (.int .i64 f.col) (.string f.word) (.slice none 0 0) (B := w.heap.size) (Nat.le_refl _) (hB.trans (hb5.mono hB.size))⟩
  case done =>
    rintro D xs W hD rfl ⟨⟨hp, _⟩, _⟩ hK
    cases hp
  case stop =>
    rintro D c pre W hD hS ⟨⟨rfl, hR⟩, hB⟩ hK
    gi_wp2
    refine ⟨by simp, .inl ⟨_, _, rfl, run_takeDeferred hK, ?_⟩⟩
    have hR2 := cells_keep w.heap.size #[.int .i64 f.code, .int .i64 f.source, .int .i64 f.line, .int .i64 f.col, .string f.word, .slice none 0 0] 77 () W _ (some D) hR (grownBy_putObj' W D (.deferred none)) (fun r e => by cases e; exact ⟨_, hK, rfl⟩)
    have y0 : (W.putObj D (.deferred none)).cell? ⟨w.heap.size, 0, none⟩ = some (.int .i64 f.code) := by rw [cell_of_row _ w.heap.size _ _ _ _ hR2]; rfl
    have y1 : (W.putObj D (.deferred none)).cell? ⟨w.heap.size, 1, none⟩ = some (.int .i64 f.source) := by rw [cell_of_row _ w.heap.size _ _ _ _ hR2]; rfl
    have y2 : (W.putObj D (.deferred none)).cell? ⟨w.heap.size, 2, none⟩ = some (.int .i64 f.line) := by rw [cell_of_row _ w.heap.size _ _ _ _ hR2]; rfl
    have y3 : (W.putObj D (.deferred none)).cell? ⟨w.heap.size, 3, none⟩ = some (.int .i64 f.col) := by rw [cell_of_row _ w.heap.size _ _ _ _ hR2]; rfl
    have y4 : (W.putObj D (.deferred none)).cell? ⟨w.heap.size, 4, none⟩ = some (.string f.word) := by rw [cell_of_row _ w.heap.size _ _ _ _ hR2]; rfl
    have y5 : (W.putObj D (.deferred none)).cell? ⟨w.heap.size, 5, none⟩ = some (.slice none 0 0) := by rw [cell_of_row _ w.heap.size _ _ _ _ hR2]; rfl
    have hB2 := hB.trans (belowK_b (w := w) (Nat.le_refl _) W D _ (.deferred none) (by omega) hK rfl rfl)
    generalize W.putObj D (.deferred none) = W2 at hR2 hB2 y0 y1 y2 y3 y4 y5 ⊢
    refine ⟨f.val, ?_, rfl, hB2⟩
    simp [results, Try.f43, go_sem, y0, y1, y2, y3, y4, y5, Flt.val]
theorem toldof_pro (g : Nat) (f : Flt) (w : World) (he : Erd w g f) :
    Calls Try.prog 43 #[errV g] w fun e W' => e = .returned f.val ∧ Below w.heap.size w W' :=
  callsIn_wide.1 (toldof_in g f w he)
end Go.Proofs.Ytjnnkelbedmccaa
