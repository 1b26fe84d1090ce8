/- Layer 12: a filling in memory, of the program and of the document. -/
import Derived.Test.YtadecjjbpoaooaaUd
namespace Go.Proofs.Ytadecjjbpoaooaa.Tb
open Go.RowKit Go.Maps
set_option linter.unusedVariables false
set_option linter.unusedSimpArgs false
/-- What a call leaves as it was: the blocks of K. -/
structure Kp (K : Nat → Prop) (w w' : World) : Prop where
  os : w'.os = w.os
  tape : w'.tape = w.tape
  output : w'.output = w.output
  size : w.heap.size ≤ w'.heap.size
  block : ∀ c, K c → w'.heap[c]? = w.heap[c]?
section
variable {K K' : Nat → Prop} {a w w' : World}
theorem Kp.refl (K : Nat → Prop) (w : World) : Kp K w w := ⟨rfl, rfl, rfl, Nat.le_refl _, fun _ _ => rfl⟩
theorem Kp.trans {b c : World} (h : Kp K a b) (k : Kp K b c) : Kp K a c := ⟨k.os.trans h.os, k.tape.trans h.tape, k.output.trans h.output, Nat.le_trans h.size k.size, fun i hi => (k.block i hi).trans (h.block i hi)⟩
theorem Kp.mono (h : Kp K w w') (hk : ∀ c, K' c → K c) : Kp K' w w' := ⟨h.os, h.tape, h.output, h.size, fun c hc => h.block c (hk c hc)⟩
theorem Kp.of (h : Below w.heap.size w w') (hK : ∀ c, K c → c < w.heap.size) : Kp K w w' := ⟨h.os, h.tape, h.output, h.size, fun c hc => h.block c (hK c hc)⟩
theorem Kp.below {B : Nat} (h : Kp K w w') (hK : ∀ c, c < B → K c) : Below B w w' := ⟨h.os, h.tape, h.output, h.size, fun c hc => h.block c (hK c hc)⟩
theorem Kp.drew (h : Kp K a w) : Kp K a w.drew := ⟨h.os, h.tape, h.output, h.size, h.block⟩
theorem Kp.alloc (h : Kp K a w) (hK : ∀ c, K c → c < w.heap.size) (o : Obj) : Kp K a (w.alloc o) := h.trans (Kp.of (below_box w o) hK)
theorem Kp.set (h : Kp K a w) {g : Nat} (k : Nat) (hg : ¬ K g) (u : Value) : Kp K a (w.setCell ⟨g, k, none⟩ u) :=
  ⟨h.os, h.tape, h.output, by simpa [World.setCell] using h.size, fun c hc => (Below.heap_setCell w ⟨g, k, none⟩ u c (fun e => hg (by simp only at e; rw [← e]; exact hc))).trans (h.block c hc)⟩
theorem Kp.grown {row : Option Nat} (h : Kp K a w) (hg : w.grownBy w' row) (hK : ∀ c, K c → c < w.heap.size ∧ row ≠ some c) : Kp K a w' :=
  ⟨hg.os.trans h.os, hg.tape.trans h.tape, hg.output.trans h.output, Nat.le_trans h.size hg.size, fun c hc => (hg.block c (hK c hc).1 (fun e => (hK c hc).2 e.symm)).trans (h.block c hc)⟩
end
/-- The box of a filling: the program's (true), the document's. -/
def bx (d : Bool) (wide : Int) (vo vl : Value) (u : Int) (vw : Value) : Obj :=
  match d with
  | true => .cells #[.int .i64 wide, vo, vl, .int .i64 u, vw] 64
  | false => .cells #[vo, vl, .int .i64 u, vw, .int .i64 wide] 64
def Told (B g : Nat) (vo vl : Value) (b : Nat) : Prop := B ≤ b ∧ b ≠ g ∧ vl.ownBlock ≠ some b ∧ vo.ownBlock ≠ some b
structure FlAt (d : Bool) (B g : Nat) (wide : Int) (K : Nat → Prop) (s : Fs) (u : Int) (vo vl vw : Value) (vs : List Value) (W : World) : Prop where
  base : B ≤ g
  blk : W.heap[g]? = some (bx d wide vo vl u vw)
  line : W.ownsRow B 40 5 vl s.line.length (rowsG s.line)
  out : OwnL B (Told B g vo vl) W vo s.out vs
  wait : RdG (Told B g vo vl) W vw s.wait
  apart : ∀ c, K c → c < W.heap.size ∧ c ≠ g ∧ vl.ownBlock ≠ some c ∧ vo.ownBlock ≠ some c
theorem bx_row (d : Bool) (wide : Int) (vo vl : Value) (u : Int) (vw : Value) : ∃ cs T, bx d wide vo vl u vw = .cells cs T (0, 0) ∧ 40 ≠ T ∧ 32 ≠ T := by
  cases d
  · exact ⟨_, _, rfl, by decide, by decide⟩
  · exact ⟨_, _, rfl, by decide, by decide⟩
section
variable {d : Bool} {B g : Nat} {wide u : Int} {K K' : Nat → Prop} {s : Fs} {vo vl vw : Value} {vs : List Value} {W W' : World}
theorem FlAt.ng (h : FlAt d B g wide K s u vo vl vw vs W) : vl.ownBlock ≠ some g ∧ vo.ownBlock ≠ some g ∧ g < W.heap.size := by
  obtain ⟨cs, T, e, h1, h2⟩ := bx_row d wide vo vl u vw
  have hb := h.blk
  rw [e] at hb
  exact ⟨own_not h.line hb h1, own_not h.out.row hb h2, (Array.getElem?_eq_some_iff.1 hb).1⟩
theorem FlAt.notKg (h : FlAt d B g wide K s u vo vl vw vs W) : ¬ K g := fun hc => (h.apart g hc).2.1 rfl
theorem FlAt.frozen (h : FlAt d B g wide K s u vo vl vw vs W) (k : Nat) : W.frozen? ⟨g, k, none⟩ = false := by
  obtain ⟨cs, T, e, _, _⟩ := bx_row d wide vo vl u vw
  have hb := h.blk
  rw [e] at hb
  exact frozen_of_row W g k _ _ hb
theorem bx_frozen {W : World} {g : Nat} (h : W.heap[g]? = some (bx d wide vo vl u vw)) (k : Nat) : W.frozen? ⟨g, k, none⟩ = false := by
  obtain ⟨cs, T, e, _, _⟩ := bx_row d wide vo vl u vw
  rw [e] at h
  exact frozen_of_row W g k _ _ h
theorem bx_cellsP {W : World} {g : Nat} (h : W.heap[g]? = some (bx true wide vo vl u vw)) : W.cell? ⟨g, 0, none⟩ = some (.int .i64 wide) ∧ W.cell? ⟨g, 1, none⟩ = some vo ∧ W.cell? ⟨g, 2, none⟩ = some vl ∧ W.cell? ⟨g, 3, none⟩ = some (.int .i64 u) ∧ W.cell? ⟨g, 4, none⟩ = some vw := by
  unfold bx at h
  refine ⟨?_, ?_, ?_, ?_, ?_⟩ <;> rw [cell_of_row _ _ _ _ _ _ h] <;> rfl
theorem bx_cellsD {W : World} {g : Nat} (h : W.heap[g]? = some (bx false wide vo vl u vw)) : W.cell? ⟨g, 0, none⟩ = some vo ∧ W.cell? ⟨g, 1, none⟩ = some vl ∧ W.cell? ⟨g, 2, none⟩ = some (.int .i64 u) ∧ W.cell? ⟨g, 3, none⟩ = some vw ∧ W.cell? ⟨g, 4, none⟩ = some (.int .i64 wide) := by
  unfold bx at h
  refine ⟨?_, ?_, ?_, ?_, ?_⟩ <;> rw [cell_of_row _ _ _ _ _ _ h] <;> rfl
/-- Behind a step that leaves all old blocks. -/
theorem FlAt.below (h : FlAt d B g wide K s u vo vl vw vs W) (hb : Below W.heap.size W W') : FlAt d B g wide K s u vo vl vw vs W' :=
  ⟨h.base, (hb.block g h.ng.2.2).trans h.blk, own_below h.line hb, h.out.below hb, h.wait.below hb, fun c hc => ⟨Nat.lt_of_lt_of_le (h.apart c hc).1 hb.size, (h.apart c hc).2⟩⟩
theorem FlAt.drew (h : FlAt d B g wide K s u vo vl vw vs W) : FlAt d B g wide K s u vo vl vw vs W.drew :=
  ⟨h.base, h.blk, h.line, ⟨h.out.num, h.out.row, fun j hj => (h.out.line j hj).keep fun _ _ _ => rfl⟩, h.wait.keep fun _ _ _ => rfl, h.apart⟩
theorem FlAt.less (h : FlAt d B g wide K s u vo vl vw vs W) (hk : ∀ c, K' c → K c) : FlAt d B g wide K' s u vo vl vw vs W := ⟨h.base, h.blk, h.line, h.out, h.wait, fun c hc => h.apart c (hk c hc)⟩
theorem FlAt.more (h : FlAt d B g wide K s u vo vl vw vs W) (o : Obj) : FlAt d B g wide (fun c => K c ∨ c = W.heap.size) s u vo vl vw vs (W.alloc o) := by
  have hb := below_box W o
  have h' := h.below hb
  refine ⟨h'.base, h'.blk, h'.line, h'.out, h'.wait, fun c hc => ?_⟩
  rcases hc with hc | rfl
  · exact h'.apart c hc
  · have n := h.ng.2.2
    refine ⟨by simp, by omega, fun e => ?_, fun e => ?_⟩
    · have := (own_base h.line e).2; omega
    · have := (own_base h.out.row e).2; omega
theorem told_lt {b : Nat} (h : Told B g vo vl b) : b ≠ g := h.2.1
/-- Only the box is another. -/
theorem FlAt.rebox (h : FlAt d B g wide K s u vo vl vw vs W) {u' : Int} {vw' : Value} {wt : List Gl} (hs : W'.heap.size = W.heap.size) (hg : W'.heap[g]? = some (bx d wide vo vl u' vw')) (hk : ∀ c, c ≠ g → W'.heap[c]? = W.heap[c]?) (hw : RdG (Told B g vo vl) W' vw' wt) :
    FlAt d B g wide K ⟨s.out, s.line, wt⟩ u' vo vl vw' vs W' := by
  have n := h.ng
  have kc : ∀ a : Addr, Told B g vo vl a.block → a.block < W.heap.size → W'.cell? a = W.cell? a := fun a ha _ => World.cell?_of_block (hk _ ha.2.1)
  exact ⟨h.base, hg, own_stays h.line fun c e => hk c (fun e' => n.1 (by rw [← e']; exact e)), h.out.keep (fun c e => hk c (fun e' => n.2.1 (by rw [← e']; exact e))) kc, hw, fun c hc => by rw [hs]; exact h.apart c hc⟩
/-- Behind an append to the line, and the store of it. -/
theorem FlAt.push (h : FlAt d B g wide K s u vo vl vw vs W) {W3 W4 : World} {g' cap : Nat} {u' : Int} {xs : List Gl} {m : Nat} (hm : m = s.line.length + xs.length) (hg : W.grownBy W3 vl.ownBlock)
    (ho : W3.ownsRow B 40 5 (.slice (some ⟨g', 0, none⟩) m cap) m (rowsG s.line ++ rowsG xs)) (hat : vl.ownBlock = some g' ∨ g' = W.heap.size)
    (hs : W4.heap.size = W3.heap.size) (hg4 : W4.heap[g]? = some (bx d wide vo (.slice (some ⟨g', 0, none⟩) m cap) u' vw)) (hk : ∀ c, c ≠ g → W4.heap[c]? = W3.heap[c]?) :
    FlAt d B g wide K ⟨s.out, s.line ++ xs, s.wait⟩ u' vo (.slice (some ⟨g', 0, none⟩) m cap) vw vs W4 ∧ (∀ c, K c → W4.heap[c]? = W.heap[c]?) := by
  have n := h.ng
  have ne' : ∀ c, c < W.heap.size → vl.ownBlock ≠ some c → g' ≠ c := fun c hc hne e => by
    rcases hat with e1 | e1
    · exact hne (by rw [e1, e])
    · omega
  have old : ∀ c, c < W.heap.size → c ≠ g → vl.ownBlock ≠ some c → W4.heap[c]? = W.heap[c]? := fun c hc h1 h2 => (hk c h1).trans (hg.block c hc (fun e => h2 e.symm))
  have tl : ∀ b, b < W.heap.size → Told B g vo vl b → Told B g vo (.slice (some ⟨g', 0, none⟩) m cap) b := fun b hb hT => ⟨hT.1, hT.2.1, fun e => ne' b hb hT.2.2.1 (Option.some.inj e), hT.2.2.2⟩
  have og : g' ≠ g := by
    rcases hat with e1 | e1
    · intro e; exact n.1 (by rw [e1, e])
    · omega
  have mv : ∀ b, Told B g vo vl b → b < W.heap.size → W4.heap[b]? = W.heap[b]? ∧ Told B g vo (.slice (some ⟨g', 0, none⟩) m cap) b := fun b hT hb => ⟨old b hb hT.2.1 hT.2.2.1, tl b hb hT⟩
  refine ⟨⟨h.base, hg4, ?_, ?_, h.wait.move mv, fun c hc => ?_⟩, fun c hc => old c (h.apart c hc).1 (h.apart c hc).2.1 (h.apart c hc).2.2.1⟩
  · rw [rowsG_app]
    have := own_stays (W' := W4) ho fun c e => hk c (by simp [Value.ownBlock] at e; omega)
    rw [hm] at this ⊢
    simpa using this
  · exact ⟨h.out.num, own_stays h.out.row fun c e => old c (own_base h.out.row e).2 (fun e' => n.2.1 (by rw [← e']; exact e)) (fun e2 => own_ne h.line h.out.row (by decide) e2 e), fun j hj => (h.out.line j hj).move mv⟩
  · have a := h.apart c hc
    refine ⟨?_, a.2.1, fun e => ne' c a.1 a.2.2.1 (Option.some.inj e), a.2.2.2⟩
    rw [hs]
    exact Nat.lt_of_lt_of_le a.1 hg.size
/-- Behind the append of the line to those that were told, and the store of them and of an empty line. -/
theorem FlAt.told (h : FlAt d B g wide K s u vo vl vw vs W) {W3 W4 : World} {g' cap : Nat} (hg : W.grownBy W3 vo.ownBlock)
    (ho : W3.ownsRow B 32 1 (.slice (some ⟨g', 0, none⟩) (s.out.length + 1) cap) (s.out.length + 1) (vs ++ [vl])) (hat : vo.ownBlock = some g' ∨ g' = W.heap.size)
    (hs : W4.heap.size = W3.heap.size) (hg4 : W4.heap[g]? = some (bx d wide (.slice (some ⟨g', 0, none⟩) (s.out.length + 1) cap) (.slice none 0 0) 0 (.slice none 0 0))) (hk : ∀ c, c ≠ g → W4.heap[c]? = W3.heap[c]?) :
    FlAt d B g wide K (endS s) 0 (.slice (some ⟨g', 0, none⟩) (s.out.length + 1) cap) (.slice none 0 0) (.slice none 0 0) (vs ++ [vl]) W4 ∧ (∀ c, K c → W4.heap[c]? = W.heap[c]?) := by
  have n := h.ng
  have ne' : ∀ c, c < W.heap.size → vo.ownBlock ≠ some c → g' ≠ c := fun c hc hne e => by
    rcases hat with e1 | e1
    · exact hne (by rw [e1, e])
    · omega
  have old : ∀ c, c < W.heap.size → c ≠ g → vo.ownBlock ≠ some c → W4.heap[c]? = W.heap[c]? := fun c hc h1 h2 => (hk c h1).trans (hg.block c hc (fun e => h2 e.symm))
  have og : g' ≠ g := by
    rcases hat with e1 | e1
    · intro e; exact n.2.1 (by rw [e1, e])
    · omega
  have mv : ∀ b, Told B g vo vl b → b < W.heap.size → W4.heap[b]? = W.heap[b]? ∧ Told B g (.slice (some ⟨g', 0, none⟩) (s.out.length + 1) cap) (.slice none 0 0) b := fun b hT hb => ⟨old b hb hT.2.1 hT.2.2.2, hT.1, hT.2.1, (fun e => by simp [Value.ownBlock] at e), fun e => ne' b hb hT.2.2.2 (Option.some.inj e)⟩
  have hl := RdG.own h.line rfl
  have hl4 : RdG (Told B g (.slice (some ⟨g', 0, none⟩) (s.out.length + 1) cap) (.slice none 0 0)) W4 vl s.line := hl.move fun b hb hlt => by
    have h1 : vo.ownBlock ≠ some b := own_ne h.line h.out.row (by decide) hb.1
    have h2 : b ≠ g := fun e => n.1 (by rw [← e]; exact hb.1)
    exact ⟨old b hlt h2 h1, hb.2, h2, (fun e => by simp [Value.ownBlock] at e), fun e => ne' b hlt h1 (Option.some.inj e)⟩
  refine ⟨⟨h.base, hg4, World.ownsRow_nil _ _ _ _, h.out.push hl4 (own_stays ho fun c e => hk c (by simp [Value.ownBlock] at e; omega)) mv, RdG.nil _ 0 (by unfold maxLen; omega) _, fun c hc => ?_⟩, fun c hc => old c (h.apart c hc).1 (h.apart c hc).2.1 (h.apart c hc).2.2.2⟩
  · have a := h.apart c hc
    refine ⟨?_, a.2.1, (fun e => by simp [Value.ownBlock] at e), fun e => ne' c a.1 a.2.2.2 (Option.some.inj e)⟩
    rw [hs]
    exact Nat.lt_of_lt_of_le a.1 hg.size
end
/-- A filling in memory. -/
def Fl (d : Bool) (B g : Nat) (wide : Int) (K : Nat → Prop) (s : Fs) (W : World) : Prop := ∃ vo vl vw vs, FlAt d B g wide K s (wid s.line) vo vl vw vs W
def FlPost (d : Bool) (B g : Nat) (wide : Int) (K : Nat → Prop) (s : Fs) (v : Value) (w : World) (e : Ending) (w' : World) : Prop := e = .returned v ∧ Fl d B g wide K s w' ∧ Kp K w w'
section
variable {d : Bool} {B g : Nat} {wide : Int} {K K' : Nat → Prop} {s : Fs} {W W' : World}
theorem Fl.below (h : Fl d B g wide K s W) (hb : Below W.heap.size W W') : Fl d B g wide K s W' := by
  obtain ⟨vo, vl, vw, vs, h⟩ := h
  exact ⟨_, _, _, _, h.below hb⟩
theorem Fl.drew (h : Fl d B g wide K s W) : Fl d B g wide K s W.drew := by
  obtain ⟨vo, vl, vw, vs, h⟩ := h
  exact ⟨_, _, _, _, h.drew⟩
theorem Fl.less (h : Fl d B g wide K s W) (hk : ∀ c, K' c → K c) : Fl d B g wide K' s W := by
  obtain ⟨vo, vl, vw, vs, h⟩ := h
  exact ⟨_, _, _, _, h.less hk⟩
theorem Fl.more (h : Fl d B g wide K s W) (o : Obj) : Fl d B g wide (fun c => K c ∨ c = W.heap.size) s (W.alloc o) := by
  obtain ⟨vo, vl, vw, vs, h⟩ := h
  exact ⟨_, _, _, _, h.more o⟩
theorem Fl.lt (h : Fl d B g wide K s W) : ∀ c, K c → c < W.heap.size := by
  obtain ⟨vo, vl, vw, vs, h⟩ := h
  exact fun c hc => (h.apart c hc).1
theorem Fl.notK (h : Fl d B g wide K s W) : ¬ K g := by
  obtain ⟨vo, vl, vw, vs, h⟩ := h
  exact fun hc => (h.apart g hc).2.1 rfl
end
end Go.Proofs.Ytadecjjbpoaooaa.Tb
