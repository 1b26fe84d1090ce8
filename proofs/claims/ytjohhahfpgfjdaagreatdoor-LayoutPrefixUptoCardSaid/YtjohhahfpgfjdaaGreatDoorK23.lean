/- The texts that the laws of layout stand on, part 23. -/
import Derived.Test.YtjohhahfpgfjdaaGreatDoorK3
import Derived.Test.YtjohhahfpgfjdaaGreatDoorK22
import Derived.Deep.RegionHeld3
section
namespace Go.Proofs.YtjohhahfpgfjdaaGreatDoor.Tb
open Go.RowKit Go.Maps
set_option linter.unusedVariables false
set_option linter.unusedSimpArgs false
/-- Rows that a call is making: a row of its own, whose lines lie elsewhere. -/
def OwnR (B : Nat) (w : World) (v : Value) (rows : List (List Gl)) (vs : List Value) : Prop := OwnL B (fun b => B ≤ b ∧ v.ownBlock ≠ some b) w v rows vs
theorem OwnR.below {B : Nat} {w w' : World} {v : Value} {rows : List (List Gl)} {vs : List Value} (h : OwnR B w v rows vs) (hb : Below w.heap.size w w') : OwnR B w' v rows vs := OwnL.below h hb
theorem OwnR.at_ {B : Nat} {w : World} {v : Value} {rows : List (List Gl)} {vs : List Value} (h : OwnR B w v rows vs) {k : Nat} (hk : k < rows.length) : ∃ g cap pr cr, v = .slice (some ⟨g, 0, none⟩) rows.length cap ∧ B ≤ g ∧ g < w.heap.size ∧ rows.length ≤ cap ∧ w.cell? ⟨g, k, none⟩ = some (.slice pr rows[k].length cr) ∧ w.frozen? ⟨g, k, none⟩ = false ∧ RdG (fun b => B ≤ b ∧ v.ownBlock ≠ some b) w (.slice pr rows[k].length cr) rows[k] := by
  rcases h.row.2 with ⟨rfl, h0⟩ | ⟨g, cap, cur, rfl, hb, hg, h1, h2, h3, h4⟩
  · omega
  · have hl := h.line k hk
    obtain ⟨pr, cr, e, _, _⟩ := hl.form
    refine ⟨g, cap, pr, cr, rfl, hb, (Array.getElem?_eq_some_iff.1 hg).1, h1, ?_, World.ownsRow.frozenAt h.row _, by rw [← e]; exact hl⟩
    rw [World.ownsRow.cellAt h.row k (by omega), ← e]
    exact List.getElem?_eq_getElem (by have := h.num; omega)
/-- One row is another. -/
theorem OwnR.set {B g n cap : Nat} {w : World} {rows : List (List Gl)} {vs : List Value} (h : OwnR B w (.slice (some ⟨g, 0, none⟩) n cap) rows vs) (hn : n = rows.length) {k : Nat} (hk : k < rows.length) {u : Value} {l : List Gl} (hu : RdG (fun b => B ≤ b ∧ b ≠ g) w u l) :
    OwnR B (w.setCell ⟨g, k, none⟩ u) (.slice (some ⟨g, 0, none⟩) n cap) (rows.set k l) (vs.set k u) := by
  subst hn
  have mv : ∀ b, (B ≤ b ∧ (Value.slice (some ⟨g, 0, none⟩) rows.length cap).ownBlock ≠ some b) → b < w.heap.size → (w.setCell ⟨g, k, none⟩ u).heap[b]? = w.heap[b]? ∧ (B ≤ b ∧ (Value.slice (some ⟨g, 0, none⟩) rows.length cap).ownBlock ≠ some b) := fun b hb _ => by
    refine ⟨Below.heap_setCell _ _ _ _ (fun e => hb.2 ?_), hb⟩
    have e' : b = g := e
    rw [e']; rfl
  have hl := (h.row.stored k u).1
  refine ⟨by simp [h.num], by rw [List.length_set]; exact hl, fun j hj => ?_⟩
  rw [List.length_set] at hj
  by_cases e : k = j
  · subst e
    simp only [List.getElem_set, if_true]
    exact hu.move fun b hb _ => ⟨Below.heap_setCell _ _ _ _ (fun e => hb.2 e), hb.1, fun e => hb.2 (by simpa [Value.ownBlock] using e.symm)⟩
  · simp only [List.getElem_set, if_neg e]
    exact (h.line j hj).move mv
theorem three_new {P : Nat → Prop} (w : World) (v1 v2 v3 : Value) (l1 l2 l3 : List Gl) (h1 : RdG P w v1 l1) (h2 : RdG P w v2 l2) (h3 : RdG P w v3 l3) (hp : P w.heap.size) : RdL P (w.alloc (.cells #[v1, v2, v3] 34)) (.slice (some ⟨w.heap.size, 0, none⟩) 3 3) [l1, l2, l3] := by
  have hb := below_box w (.cells #[v1, v2, v3] 34)
  refine ⟨_, 3, rfl, Nat.le_refl _, by unfold maxLen; omega, fun j hj => ?_⟩
  have hj3 : j < 3 := hj
  have hc : ∀ (j : Nat) (u : Value), #[v1, v2, v3][j]? = some u → (w.alloc (.cells #[v1, v2, v3] 34)).cell? ⟨w.heap.size, 0 + j, none⟩ = some u := fun j u hu => by
    rw [Nat.zero_add, cell_of_row _ _ _ _ _ _ (heap_alloc_new w _)]
    exact hu
  match j, hj3 with
  | 0, _ => exact ⟨_, _, v1, rfl, hp, hc 0 _ rfl, h1.below hb⟩
  | 1, _ => exact ⟨_, _, v2, rfl, hp, hc 1 _ rfl, h2.below hb⟩
  | 2, _ => exact ⟨_, _, v3, rfl, hp, hc 2 _ rfl, h3.below hb⟩
def PutPost (B : Nat) (rows : List (List Gl)) (w : World) (e : Ending) (w' : World) : Prop := ∃ v vs, e = .returned v ∧ OwnR B w' v rows vs ∧ Below B w w'
theorem blank_plain : blank ⟨⟨#[]⟩, 0, 0, 7, 0⟩ = plainG := rfl
/-- Behind the rows, empty ones. -/
theorem OwnR.grow {B : Nat} {w : World} {v : Value} {rows : List (List Gl)} {vs : List Value} (h : OwnR B w v rows vs) (hB : B ≤ w.heap.size) (k : Nat) (hk : 0 < k) (hl : (rows.length + k) * 24 ≤ 140737488355328) :
    ∀ ty, ∃ v' w', (Builtin.append_ #[25, 3] ty #[v, .int .i64 k]).run Tryz.prog w = .ok v' w' ∧ OwnR B w' v' (rows ++ List.replicate k []) (vs ++ List.replicate k (.slice none 0 0)) ∧ w.grownBy w' v.ownBlock ∧ ∀ b, v'.ownBlock = some b → v.ownBlock = some b ∨ w.heap.size ≤ b := by
  intro ty
  obtain ⟨i0, hi0, hz0, hz1, hz2⟩ := info_parts infoL
  obtain ⟨v', w', hr, ho, hg, hnb⟩ := run_append_zeros (P := Tryz.prog) w B 25 3 ty 34 i0 _ 24 .i64 Tryz.underlying25 Tryz.underlying3 hi0 hz0 hz1 hz2 rfl rfl v rows.length vs h.row k hk (by unfold maxLen; omega) hl hB
  refine ⟨v', w', hr, ⟨by simp [h.num], by rw [List.length_append, List.length_replicate]; exact ho, fun j hj => ?_⟩, hg, hnb⟩
  by_cases hjl : j < rows.length
  · have e1 : (rows ++ List.replicate k [])[j] = rows[j] := List.getElem_append_left hjl
    have e2 : (vs ++ List.replicate k (Value.slice none 0 0))[j]'(by simp [h.num]; omega) = vs[j]'(by have := h.num; omega) := List.getElem_append_left (by have := h.num; omega)
    rw [e1, e2]
    refine (h.line j hjl).move fun b hb hlt => ⟨hg.block b hlt (fun e => hb.2 e.symm), hb.1, fun e => ?_⟩
    -- the new row's block is no line's
    rcases hnb b e with e1 | e1
    · exact hb.2 e1
    · omega
  · have e1 : (rows ++ List.replicate k [])[j] = [] := by rw [List.getElem_append_right (by omega)]; simp
    have e2 : (vs ++ List.replicate k (Value.slice none 0 0))[j]'(by simp [h.num]; simp at hj; omega) = .slice none 0 0 := by rw [List.getElem_append_right (by have := h.num; omega)]; simp
    rw [e1, e2]
    exact RdG.nil _ 0 (by unfold maxLen; omega) _
end Go.Proofs.YtjohhahfpgfjdaaGreatDoor.Tb
end
