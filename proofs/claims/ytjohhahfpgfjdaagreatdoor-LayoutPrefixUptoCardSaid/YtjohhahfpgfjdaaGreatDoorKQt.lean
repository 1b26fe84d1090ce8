/- Layer 11: the document's checker in memory, as what it changes is its own. -/
import Derived.Test.YtjohhahfpgfjdaaGreatDoorK37
import Derived.Test.YtjohhahfpgfjdaaGreatDoorKJk
namespace Go.Proofs.YtjohhahfpgfjdaaGreatDoor.Ir
open Go.RowKit Go.Maps Go.Proofs.YtjohhahfpgfjdaaGreatDoor
set_option linter.unusedVariables false
set_option linter.unusedSimpArgs false
def bosV (l : List Bool) : List Value := l.map .bool
def dlsV (l : List Dl) : List Value := l.flatMap dlRow
theorem bosV_len (l : List Bool) : (bosV l).length = l.length := by simp [bosV]
theorem dlsV_len : ∀ l : List Dl, (dlsV l).length = l.length * 5
  | [] => rfl
  | x :: l => by
    have := dlsV_len l
    unfold dlsV at this ⊢
    rw [List.flatMap_cons, List.length_append, this, List.length_cons]
    simp [dlRow]
    omega
theorem dlsV_app (a b : List Dl) : dlsV (a ++ b) = dlsV a ++ dlsV b := by simp [dlsV]
theorem dlsV_one (x : Dl) : dlsV [x] = dlRow x := by simp [dlsV]
theorem dlsV_get : ∀ (l : List Dl) (i k : Nat) (h : i < l.length) (u : Value), (dlRow l[i])[k]? = some u → (dlsV l)[i * 5 + k]? = some u
  | [], i, k, h, u, _ => absurd h (by simp)
  | x :: l, 0, k, h, u, hu => by
    have hk : k < 5 := by
      rcases Nat.lt_or_ge k 5 with h | h
      · exact h
      · rw [List.getElem?_eq_none (by simpa [dlRow] using h)] at hu; cases hu
    unfold dlsV
    rw [List.flatMap_cons, List.getElem?_append_left (by simp [dlRow]; omega)]
    simpa using hu
  | x :: l, i + 1, k, h, u, hu => by
    have ih := dlsV_get l i k (by simpa using h) u hu
    unfold dlsV at ih ⊢
    rw [List.flatMap_cons, List.getElem?_append_right (by simp [dlRow]; omega)]
    rw [show (i + 1) * 5 + k - (dlRow x).length = i * 5 + k by simp [dlRow]; omega]
    exact ih
section
variable {B g : Nat} {w w' : World} {s : Dc} {vb vo vb' vo' : Value}
theorem RdB.ownB {v : Value} {l : List Bool} (h : w.ownsRow B 4 1 v l.length (bosV l)) : RdB w v l := by
  rcases h.2 with ⟨rfl, h0⟩ | ⟨g, cap, cur, rfl, hb, hg, h1, h2, h3, h4⟩
  · have : l = [] := List.eq_nil_of_length_eq_zero h0
    subst this
    exact ⟨none, 0, rfl, Nat.le_refl _, Nat.zero_le _, fun i hi => absurd hi (by simp)⟩
  · refine ⟨_, cap, rfl, h1, h2, fun i hi => ⟨g, 0, rfl, ?_⟩⟩
    rw [Nat.zero_add]
    exact (World.ownsRow.cellAt h i (by omega)).trans (by unfold bosV; rw [List.getElem?_map, List.getElem?_eq_getElem hi]; rfl)
theorem RdL.ownL {v : Value} {l : List Dl} (h : w.ownsRow B 176 5 v l.length (dlsV l)) : RdL w v l := by
  rcases h.2 with ⟨rfl, h0⟩ | ⟨g, cap, cur, rfl, hb, hg, h1, h2, h3, h4⟩
  · have : l = [] := List.eq_nil_of_length_eq_zero h0
    subst this
    exact ⟨none, 0, rfl, Nat.le_refl _, Nat.zero_le _, fun i hi => absurd hi (by simp)⟩
  · refine ⟨_, cap, rfl, h1, h2, fun i hi => ⟨g, 0, rfl, fun k u hu => ?_⟩⟩
    have hk : k < 5 := by
      rcases Nat.lt_or_ge k 5 with h | h
      · exact h
      · rw [List.getElem?_eq_none (by simpa [dlRow] using h)] at hu; cases hu
    rw [Nat.zero_add]
    exact (World.ownsRow.cellAt h (i * 5 + k) (by omega)).trans (dlsV_get l i k hi u hu)
theorem own_cut {e : TypeId} {size n m cap gg : Nat} {xs : List Value} (h : w.ownsRow B e size (.slice (some ⟨gg, 0, none⟩) m cap) m xs) (hn : n ≤ m) : w.ownsRow B e size (.slice (some ⟨gg, 0, none⟩) n cap) n (xs.take (n * size)) := by
  obtain ⟨h1, h2⟩ := h
  have hle : n * size ≤ m * size := Nat.mul_le_mul_right _ hn
  refine ⟨by rw [List.length_take, h1]; omega, .inr ?_⟩
  rcases h2 with ⟨e, _⟩ | ⟨g2, cap2, cur, e, hb, hg, h3, h4, h5, h6⟩
  · cases e
  · cases e
    refine ⟨gg, cap, cur, rfl, hb, hg, by omega, h4, h5, ?_⟩
    rw [← h6, List.take_take, Nat.min_eq_left hle]
/-- The checker, and its two lists. -/
structure DcM (B g : Nat) (w : World) (s : Dc) (vb vo : Value) : Prop where
  row : w.heap[g]? = some (.cells #[.bool s.para, vb, vo, .bool s.tx] 105 (0, 0))
  br : w.ownsRow B 4 1 vb s.br.length (bosV s.br)
  op : w.ownsRow B 176 5 vo s.op.length (dlsV s.op)
  gB : B ≤ g
theorem DcM.is (h : DcM B g w s vb vo) : DcIs g w s vb vo := ⟨h.row, RdB.ownB h.br, RdL.ownL h.op⟩
theorem DcM.lt (h : DcM B g w s vb vo) : g < w.heap.size := (Array.getElem?_eq_some_iff.1 h.row).1
theorem DcM.below (h : DcM B g w s vb vo) (hb : Below w.heap.size w w') : DcM B g w' s vb vo := ⟨(hb.block g h.lt).trans h.row, own_below h.br hb, own_below h.op hb, h.gB⟩
theorem DcM.facts (h : DcM B g w s vb vo) : (w.cell? ⟨g, 0, none⟩ = some (.bool s.para) ∧ w.cell? ⟨g, 1, none⟩ = some vb ∧ w.cell? ⟨g, 2, none⟩ = some vo ∧ w.cell? ⟨g, 3, none⟩ = some (.bool s.tx)) ∧ w.frozen? ⟨g, 0, none⟩ = false ∧ w.frozen? ⟨g, 1, none⟩ = false ∧ w.frozen? ⟨g, 2, none⟩ = false ∧ w.frozen? ⟨g, 3, none⟩ = false := by
  refine ⟨⟨?_, ?_, ?_, ?_⟩, frozen_of_row w _ 0 _ _ h.row, frozen_of_row w _ 1 _ _ h.row, frozen_of_row w _ 2 _ _ h.row, frozen_of_row w _ 3 _ _ h.row⟩ <;> rw [cell_of_row _ _ _ _ _ _ h.row] <;> rfl
theorem own_set {e : TypeId} {size n : Nat} {v u : Value} {xs : List Value} {j : Nat} (hx : w.heap[g]? = some (.cells #[.bool s.para, vb, vo, .bool s.tx] 105 (0, 0))) (h : w.ownsRow B e size v n xs) (he : e ≠ 105) : (w.setCell ⟨g, j, none⟩ u).ownsRow B e size v n xs :=
  own_stays h fun c hc => Below.heap_setCell _ _ _ _ (fun e2 => own_not2 h hx he (by rw [hc, e2]))
theorem DcM.setPara (h : DcM B g w s vb vo) (b : Bool) : DcM B g (w.setCell ⟨g, 0, none⟩ (.bool b)) { s with para := b } vb vo :=
  ⟨heap_setCell_same w g 0 _ _ (.bool b) h.row, own_set h.row h.br (by decide), own_set h.row h.op (by decide), h.gB⟩
theorem DcM.setTx (h : DcM B g w s vb vo) (b : Bool) : DcM B g (w.setCell ⟨g, 3, none⟩ (.bool b)) { s with tx := b } vb vo :=
  ⟨heap_setCell_same w g 3 _ _ (.bool b) h.row, own_set h.row h.br (by decide), own_set h.row h.op (by decide), h.gB⟩
theorem DcM.setBr (h : DcM B g w s vb vo) {l : List Bool} (ho : w.ownsRow B 4 1 vb' l.length (bosV l)) : DcM B g (w.setCell ⟨g, 1, none⟩ vb') { s with br := l } vb' vo :=
  ⟨heap_setCell_same w g 1 _ _ vb' h.row, own_set h.row ho (by decide), own_set h.row h.op (by decide), h.gB⟩
theorem DcM.setOp (h : DcM B g w s vb vo) {l : List Dl} (ho : w.ownsRow B 176 5 vo' l.length (dlsV l)) : DcM B g (w.setCell ⟨g, 2, none⟩ vo') { s with op := l } vb vo' :=
  ⟨heap_setCell_same w g 2 _ _ vo' h.row, own_set h.row h.br (by decide), own_set h.row ho (by decide), h.gB⟩
/-- Behind an append to one of the lists the checker is as it was. -/
theorem DcM.grownB (h : DcM B g w s vb vo) (hg : w.grownBy w' vb.ownBlock) : w'.heap[g]? = some (.cells #[.bool s.para, vb, vo, .bool s.tx] 105 (0, 0)) ∧ w'.ownsRow B 176 5 vo s.op.length (dlsV s.op) :=
  ⟨(hg.block g h.lt (fun e => own_not2 h.br h.row (by decide) e.symm)).trans h.row, own_stays h.op fun c hc => hg.block c (own_base h.op hc).2 fun e => own_ne h.br h.op (by decide) e.symm hc⟩
theorem DcM.grownO (h : DcM B g w s vb vo) (hg : w.grownBy w' vo.ownBlock) : w'.heap[g]? = some (.cells #[.bool s.para, vb, vo, .bool s.tx] 105 (0, 0)) ∧ w'.ownsRow B 4 1 vb s.br.length (bosV s.br) :=
  ⟨(hg.block g h.lt (fun e => own_not2 h.op h.row (by decide) e.symm)).trans h.row, own_stays h.br fun c hc => hg.block c (own_base h.br hc).2 fun e => own_ne h.op h.br (by decide) e.symm hc⟩
theorem DcM.pushBr (h : DcM B g w s vb vo) {x : Bool} (hg : w.grownBy w' vb.ownBlock) (ho : w'.ownsRow B 4 1 vb' (s.br.length + 1) (bosV s.br ++ [.bool x])) : DcM B g (w'.setCell ⟨g, 1, none⟩ vb') { s with br := s.br ++ [x] } vb' vo := by
  obtain ⟨h1, h2⟩ := h.grownB hg
  have hb : w'.ownsRow B 4 1 vb' (s.br ++ [x]).length (bosV (s.br ++ [x])) := by rw [List.length_append]; simpa [bosV] using ho
  exact ⟨heap_setCell_same w' g 1 _ _ vb' h1, own_set h1 hb (by decide), own_set h1 h2 (by decide), h.gB⟩
theorem DcM.pushOp (h : DcM B g w s vb vo) {x : Dl} (hg : w.grownBy w' vo.ownBlock) (ho : w'.ownsRow B 176 5 vo' (s.op.length + 1) (dlsV s.op ++ dlRow x)) : DcM B g (w'.setCell ⟨g, 2, none⟩ vo') { s with op := s.op ++ [x] } vb vo' := by
  obtain ⟨h1, h2⟩ := h.grownO hg
  have hb : w'.ownsRow B 176 5 vo' (s.op ++ [x]).length (dlsV (s.op ++ [x])) := by rw [List.length_append, dlsV_app, dlsV_one]; exact ho
  exact ⟨heap_setCell_same w' g 2 _ _ vo' h1, own_set h1 h2 (by decide), own_set h1 hb (by decide), h.gB⟩
theorem DcM.facts2 {vb2 vo2 : Value} {p t : Bool} (h : w.heap[g]? = some (.cells #[.bool p, vb2, vo2, .bool t] 105 (0, 0))) : (w.cell? ⟨g, 0, none⟩ = some (.bool p) ∧ w.cell? ⟨g, 1, none⟩ = some vb2 ∧ w.cell? ⟨g, 2, none⟩ = some vo2 ∧ w.cell? ⟨g, 3, none⟩ = some (.bool t)) ∧ w.frozen? ⟨g, 1, none⟩ = false ∧ w.frozen? ⟨g, 2, none⟩ = false := by
  refine ⟨⟨?_, ?_, ?_, ?_⟩, frozen_of_row w _ 1 _ _ h, frozen_of_row w _ 2 _ _ h⟩ <;> rw [cell_of_row _ _ _ _ _ _ h] <;> rfl
end
/-- What a call of the checker comes to. -/
def DoIs (B g : Nat) (ok : Bool) (s : Dc) (w : World) (e : Ending) (w' : World) : Prop := e = .returned (.bool ok) ∧ Below B w w' ∧ ∃ vb vo, DcM B g w' s vb vo
theorem infoBq : (Tryz.prog.info? 4).map (fun i => (i.zero, i.size, i.bytes)) = some (some (.bool false), 1, 1) := by kernel_rfl
theorem infoLq : (Tryz.prog.info? 176).map (fun i => (i.zero, i.size, i.bytes)) = some (some (.agg #[.bool false, .int .i64 0, .int .i64 0, .int .i64 0, .int .i64 0]), 5, 40) := by kernel_rfl
theorem cells_newQ {w : World} {cs : Array Value} {t : TypeId} {c : Nat} (hc : w.heap.size = c) (j : Nat) (u : Value) (h : cs.toList[j]? = some u) : (w.alloc (.cells cs t)).cell? ((⟨c, 0, none⟩ : Addr).add j) = some u := by
  subst hc
  exact cells_newI w cs t j u h
theorem dlRow_one (x : Dl) : ∀ u ∈ dlRow x, u.oneCell' = true := by
  intro u hu
  simp only [dlRow, List.mem_cons, List.not_mem_nil, or_false] at hu
  rcases hu with rfl | rfl | rfl | rfl | rfl <;> rfl
def opB (k n : Int) (t : ByteArray) (p : Option Addr) (l c : Nat) : Value := .agg #[.int .i64 k, .int .i64 n, .string t, .slice p l c]
def opO (k n : Int) (t : ByteArray) (p : Option Addr) (l c : Nat) : Obj := .cells #[.int .i64 k, .int .i64 n, .string t, .slice p l c] 53
end Go.Proofs.YtjohhahfpgfjdaaGreatDoor.Ir
