/- The program's lexer in memory: what its nine cells and its three lists hold. -/
import Derived.Test.YtmceiehnfmgioaaGreatDoorOBase
import Derived.Test.YtmceiehnfmgioaaGreatDoorMk
import Derived.Lib.AppendStr
import Derived.Laws.StructEq
import Derived.BigRegion
import Derived.Outline
namespace Go.Proofs.YtmceiehnfmgioaaGreatDoor
open Go.RowKit
set_option linter.unusedVariables false

def tokRow (t : Tok) : List Value := [.int .i64 t.kind, .string (bs t.name), .string (bs t.text), .int .i64 t.line, .int .i64 t.col]
def tokRows (l : List Tok) : List Value := l.flatMap tokRow
theorem tokRows_len (l : List Tok) : (tokRows l).length = l.length * 5 := by
  induction l with
  | nil => rfl
  | cons a l ih => simp [tokRows, tokRow] at ih ⊢; omega
theorem tokRows_snoc (l : List Tok) (t : Tok) : tokRows (l ++ [t]) = tokRows l ++ tokRow t := by simp [tokRows]
theorem tokRow_one (t : Tok) : ∀ u ∈ tokRow t, u.oneCell' = true := by
  intro u hu; simp [tokRow] at hu; rcases hu with rfl | rfl | rfl | rfl | rfl <;> rfl
theorem byteCells_app (a b : List UInt8) : Lib.byteCells (a ++ b) = Lib.byteCells a ++ Lib.byteCells b := by simp [Lib.byteCells]
theorem strCells_bs (l : List UInt8) : Lib.strCells (bs l) = Lib.byteCells l := rfl
theorem bs_size (l : List UInt8) : (bs l).size = l.length := by show (l.toArray).size = _; simp
theorem infoTok : (Tryz.prog.info? 40).map (fun i => (i.zero, i.size, i.bytes)) = some (some (.agg #[.int .i64 0, .string .empty, .string .empty, .int .i64 0, .int .i64 0]), 5, 56) := by kernel_rfl
theorem infoU8 : (Tryz.prog.info? 5).map (fun i => (i.zero, i.size, i.bytes)) = some (some (.int .u8 0), 1, 1) := by kernel_rfl

def Mk.gl (m : Mk) : Nat := match m.gap with | none => 0 | some p => p.1
def Mk.gc (m : Mk) : Nat := match m.gap with | none => 0 | some p => p.2
def lexCells (vt vo vr : Value) (n : Nat) (m : Mk) : Array Value :=
  #[vt, .int .i64 n, vo, vr, .int .i64 m.beg.1, .int .i64 m.beg.2, .int .i64 m.gl, .int .i64 m.gc, .bool m.parts]
/-- The braces that are open: at most sixteen, each of a line. -/
def OpnOk (l : List Tok) : Prop := l.length ≤ 16 ∧ ∀ t ∈ l, 0 < t.line
/-- Two lists do not share their memory. -/
def Far (v u : Value) : Prop := v.ownBlock = none ∨ v.ownBlock ≠ u.ownBlock
/-- The lexer in block g holds m; it has taken so many lines; all of it lies from block B on. -/
structure Lx (w : World) (B g n : Nat) (m : Mk) (vt vo vr : Value) : Prop where
  blk : w.heap[g]? = some (.cells (lexCells vt vo vr n m) 90 (0, 0))
  toks : w.ownsRow B 40 5 vt m.out.length (tokRows m.out)
  opns : w.ownsRow B 40 5 vo m.opn.length (tokRows m.opn)
  runs : w.ownsRow B 5 1 vr m.run.length (Lib.byteCells m.run)
  far : Far vt vo
  far' : Far vo vt
  base : B ≤ g
  gap : ∀ p, m.gap = some p → 0 < p.1
  opn16 : OpnOk m.opn
def IsLx (w : World) (B g n : Nat) (m : Mk) : Prop := ∃ vt vo vr, Lx w B g n m vt vo vr
/-- An object that is no list of bytes. -/
def NoU8 (o : Obj) : Prop := ∀ cs fz, o ≠ .cells cs 5 fz
/-- What is neither the lexer's block, nor a list of bytes, nor one of its two lists is as it was. -/
def Kept3 (g : Nat) (vt vo vt' vo' : Value) (w w' : World) : Prop :=
  ∀ b o, w.heap[b]? = some o → NoU8 o → g ≠ b → vt.ownBlock ≠ some b → vo.ownBlock ≠ some b → w'.heap[b]? = some o ∧ vt'.ownBlock ≠ some b ∧ vo'.ownBlock ≠ some b
/-- The lexer has gone on to m. -/
def Moved (B g n : Nat) (m : Mk) (vt vo : Value) (w w' : World) : Prop :=
  Below B w w' ∧ ∃ vt' vo' vr', Lx w' B g n m vt' vo' vr' ∧ Kept3 g vt vo vt' vo' w w'
/-- A call without a result has left the lexer so. -/
def Did (B g n : Nat) (m : Mk) (vt vo : Value) (w : World) (e : Ending) (w' : World) : Prop := e = .returned (.tuple #[]) ∧ Moved B g n m vt vo w w'
def Kp (g : Nat) (w w' : World) : Prop := ∀ b o, w.heap[b]? = some o → NoU8 o → g ≠ b → w'.heap[b]? = some o

theorem grown_setCell (w : World) (a : Addr) (u : Value) : w.grownBy (w.setCell a u) (some a.block) :=
  ⟨rfl, rfl, rfl, by simp, fun k _ hk => Below.heap_setCell w a u k (fun e => hk (by rw [e]))⟩
theorem not_row {w : World} {g : Nat} {cs : Array Value} {t e : TypeId} (h : w.heap[g]? = some (.cells cs t (0, 0))) (hne : t ≠ e) {B size n : Nat} {v : Value} {xs : List Value} (hr : w.ownsRow B e size v n xs) : v.ownBlock ≠ some g := by
  rcases hr.2 with ⟨rfl, _⟩ | ⟨g', cap, cur, rfl, _, hg, _⟩
  · simp [Value.ownBlock]
  · intro e1
    simp [Value.ownBlock] at e1
    subst e1
    rw [h] at hg
    cases hg
    exact hne rfl
theorem own_set {w : World} {g k : Nat} {cs : Array Value} {t e : TypeId} {u : Value} (h : w.heap[g]? = some (.cells cs t (0, 0))) (hne : t ≠ e) {B size n : Nat} {v : Value} {xs : List Value} (hr : w.ownsRow B e size v n xs) :
    (w.setCell ⟨g, k, none⟩ u).ownsRow B e size v n xs :=
  hr.kept (grown_setCell w ⟨g, k, none⟩ u) (.inr (not_row h hne hr))
theorem lt_heap {w : World} {g : Nat} {o : Obj} (h : w.heap[g]? = some o) : g < w.heap.size := (Array.getElem?_eq_some_iff.1 h).1

section
variable {w : World} {B g n : Nat} {m : Mk} {vt vo vr : Value}
theorem Lx.alloc (h : Lx w B g n m vt vo vr) (o : Obj) : Lx (w.alloc o) B g n m vt vo vr :=
  { h with blk := (Below.heap_alloc _ _ _ (lt_heap h.blk)).trans h.blk, toks := h.toks.alloc _, opns := h.opns.alloc _, runs := h.runs.alloc _ }
theorem Lx.drew (h : Lx w B g n m vt vo vr) : Lx w.drew B g n m vt vo vr := ⟨h.blk, h.toks, h.opns, h.runs, h.far, h.far', h.base, h.gap, h.opn16⟩
theorem Lx.keep {w' : World} (h : Lx w B g n m vt vo vr) (hb : Below w.heap.size w w') : Lx w' B g n m vt vo vr :=
  { h with blk := (hb.block g (lt_heap h.blk)).trans h.blk, toks := own_below h.toks hb, opns := own_below h.opns hb, runs := own_below h.runs hb }
theorem IsLx.keep {w' : World} (h : IsLx w B g n m) (hb : Below w.heap.size w w') : IsLx w' B g n m := by
  obtain ⟨vt, vo, vr, h⟩ := h; exact ⟨vt, vo, vr, h.keep hb⟩
theorem Lx.cells (h : Lx w B g n m vt vo vr) : w.cell? ⟨g, 0, none⟩ = some vt ∧ w.cell? ⟨g, 1, none⟩ = some (.int .i64 n) ∧ w.cell? ⟨g, 2, none⟩ = some vo ∧ w.cell? ⟨g, 3, none⟩ = some vr ∧ w.cell? ⟨g, 4, none⟩ = some (.int .i64 m.beg.1) ∧
    w.cell? ⟨g, 5, none⟩ = some (.int .i64 m.beg.2) ∧ w.cell? ⟨g, 6, none⟩ = some (.int .i64 m.gl) ∧ w.cell? ⟨g, 7, none⟩ = some (.int .i64 m.gc) ∧ w.cell? ⟨g, 8, none⟩ = some (.bool m.parts) := by
  refine ⟨?_, ?_, ?_, ?_, ?_, ?_, ?_, ?_, ?_⟩ <;> (rw [cell_of_row w g _ _ _ _ h.blk]; rfl)
theorem Lx.frozen (h : Lx w B g n m vt vo vr) (k : Nat) : w.frozen? ⟨g, k, none⟩ = false := frozen_of_row w g k _ _ h.blk
theorem Lx.size (h : Lx w B g n m vt vo vr) : B ≤ w.heap.size := Nat.le_of_lt (Nat.lt_of_le_of_lt h.base (lt_heap h.blk))
/-- Behind a store into one of the lexer's cells, or two. -/
theorem Lx.put {m' : Mk} {n' : Nat} {w' : World} {vt' vo' vr' : Value} (h : Lx w B g n m vt vo vr) (hb : w'.heap[g]? = some (.cells (lexCells vt' vo' vr' n' m') 90 (0, 0)))
    (h1 : w'.ownsRow B 40 5 vt' m'.out.length (tokRows m'.out)) (h2 : w'.ownsRow B 40 5 vo' m'.opn.length (tokRows m'.opn)) (h3 : w'.ownsRow B 5 1 vr' m'.run.length (Lib.byteCells m'.run)) (h4 : Far vt' vo') (h4' : Far vo' vt')
    (h5 : ∀ p, m'.gap = some p → 0 < p.1) (h6 : OpnOk m'.opn) : Lx w' B g n' m' vt' vo' vr' :=
  ⟨hb, h1, h2, h3, h4, h4', h.base, h5, h6⟩
theorem Lx.set1 {m' : Mk} {n' : Nat} {k : Nat} {u : Value} (h : Lx w B g n m vt vo vr) (hc : (lexCells vt vo vr n m).setIfInBounds k u = lexCells vt vo vr n' m') (h1 : m'.out = m.out) (h2 : m'.opn = m.opn) (h3 : m'.run = m.run)
    (h5 : ∀ p, m'.gap = some p → 0 < p.1) : Lx (w.setCell ⟨g, k, none⟩ u) B g n' m' vt vo vr :=
  h.put (by rw [← hc]; exact heap_setCell_same w g k _ _ u h.blk) (by rw [h1]; exact own_set h.blk (by decide) h.toks) (by rw [h2]; exact own_set h.blk (by decide) h.opns) (by rw [h3]; exact own_set h.blk (by decide) h.runs) h.far h.far' h5 (by rw [h2]; exact h.opn16)
theorem Lx.set2 {m' : Mk} {n' : Nat} {k k' : Nat} {u u' : Value} (h : Lx w B g n m vt vo vr) (hc : ((lexCells vt vo vr n m).setIfInBounds k u).setIfInBounds k' u' = lexCells vt vo vr n' m') (h1 : m'.out = m.out) (h2 : m'.opn = m.opn) (h3 : m'.run = m.run)
    (h5 : ∀ p, m'.gap = some p → 0 < p.1) : Lx ((w.setCell ⟨g, k, none⟩ u).setCell ⟨g, k', none⟩ u') B g n' m' vt vo vr := by
  have hb1 := heap_setCell_same w g k _ _ u h.blk
  have hb2 := heap_setCell_same _ g k' _ _ u' hb1
  exact h.put (by rw [← hc]; exact hb2) (by rw [h1]; exact own_set hb1 (by decide) (own_set h.blk (by decide) h.toks)) (by rw [h2]; exact own_set hb1 (by decide) (own_set h.blk (by decide) h.opns)) (by rw [h3]; exact own_set hb1 (by decide) (own_set h.blk (by decide) h.runs)) h.far h.far' h5 (by rw [h2]; exact h.opn16)
/-- Rows of unlike types do not share a block. -/
theorem own_ne {w : World} {b b' : Nat} {e e' : TypeId} {s s' : Nat} {v v' : Value} {n n' : Nat} {xs xs' : List Value} (h : w.ownsRow b e s v n xs) (h' : w.ownsRow b' e' s' v' n' xs') (hne : e ≠ e') : Far v v' := by
  rcases h.2 with ⟨rfl, _⟩ | ⟨g, cap, cur, rfl, _, hg, _⟩
  · exact .inl rfl
  · refine .inr fun e1 => ?_
    rcases h'.2 with ⟨rfl, _⟩ | ⟨g', cap', cur', rfl, _, hg', _⟩
    · simp [Value.ownBlock] at e1
    · simp [Value.ownBlock] at e1
      subst e1
      rw [hg] at hg'
      cases hg'
      exact hne rfl
/-- Behind an append to the run, and the stores. -/
theorem Lx.run_put {m' : Mk} {w2 : World} {v' : Value} {L : Nat} {xs : List Value} (h : Lx w B g n m vt vo vr) (hg : w.grownBy w2 vr.ownBlock) (ho : w2.ownsRow B 5 1 v' L xs) (hL : m'.run.length = L) (hx : Lib.byteCells m'.run = xs)
    (hc : ((lexCells vt vo vr n m).setIfInBounds 3 v').setIfInBounds 8 (.bool m'.parts) = lexCells vt vo v' n m') (h1 : m'.out = m.out) (h2 : m'.opn = m.opn) (h5 : m'.gap = m.gap) :
    w2.heap[g]? = some (.cells (lexCells vt vo vr n m) 90 (0, 0)) ∧ Lx ((w2.setCell ⟨g, 3, none⟩ v').setCell ⟨g, 8, none⟩ (.bool m'.parts)) B g n m' vt vo v' := by
  have hb : w2.heap[g]? = some (.cells (lexCells vt vo vr n m) 90 (0, 0)) := (hg.block g (lt_heap h.blk) (fun e => not_row h.blk (by decide) h.runs e.symm)).trans h.blk
  have hb1 := heap_setCell_same w2 g 3 _ _ v' hb
  have hb2 := heap_setCell_same _ g 8 _ _ (.bool m'.parts) hb1
  have t1 := h.toks.kept hg (own_ne h.toks h.runs (by decide))
  have t2 := h.opns.kept hg (own_ne h.opns h.runs (by decide))
  refine ⟨hb, h.put (by rw [← hc]; exact hb2) (by rw [h1]; exact own_set hb1 (by decide) (own_set hb (by decide) t1)) (by rw [h2]; exact own_set hb1 (by decide) (own_set hb (by decide) t2)) ?_ h.far h.far' (by rw [h5]; exact h.gap) (by rw [h2]; exact h.opn16)⟩
  rw [hL, hx]
  exact own_set hb1 (by decide) (own_set hb (by decide) ho)
theorem Lx.cells_of {w2 : World} {cs : Array Value} (hb : w2.heap[g]? = some (.cells cs 90 (0, 0))) (k : Nat) : w2.cell? ⟨g, k, none⟩ = cs[k]? ∧ w2.frozen? ⟨g, k, none⟩ = false :=
  ⟨cell_of_row w2 g k _ _ _ hb, frozen_of_row w2 g k _ _ hb⟩
theorem lex9 {w2 : World} (hb : w2.heap[g]? = some (.cells (lexCells vt vo vr n m) 90 (0, 0))) : w2.cell? ⟨g, 0, none⟩ = some vt ∧ w2.cell? ⟨g, 1, none⟩ = some (.int .i64 n) ∧ w2.cell? ⟨g, 2, none⟩ = some vo ∧ w2.cell? ⟨g, 3, none⟩ = some vr ∧ w2.cell? ⟨g, 4, none⟩ = some (.int .i64 m.beg.1) ∧
    w2.cell? ⟨g, 5, none⟩ = some (.int .i64 m.beg.2) ∧ w2.cell? ⟨g, 6, none⟩ = some (.int .i64 m.gl) ∧ w2.cell? ⟨g, 7, none⟩ = some (.int .i64 m.gc) ∧ w2.cell? ⟨g, 8, none⟩ = some (.bool m.parts) ∧ ∀ k, w2.frozen? ⟨g, k, none⟩ = false := by
  refine ⟨?_, ?_, ?_, ?_, ?_, ?_, ?_, ?_, ?_, fun k => frozen_of_row w2 g k _ _ hb⟩ <;> (rw [cell_of_row w2 g _ _ _ _ hb]; rfl)
theorem Kp.refl (g : Nat) (w : World) : Kp g w w := fun _ _ h _ _ => h
theorem Kp.trans {w1 w2 : World} (h1 : Kp g w w1) (h2 : Kp g w1 w2) : Kp g w w2 := fun b o h hn hg => h2 b o (h1 b o h hn hg) hn hg
theorem Kp.alloc {w1 : World} (h : Kp g w w1) (o : Obj) : Kp g w (w1.alloc o) := fun b o' hb hn hg => (Below.heap_alloc _ _ _ (lt_heap (h b o' hb hn hg))).trans (h b o' hb hn hg)
theorem Kp.set {w1 : World} (h : Kp g w w1) (k : Nat) (u : Value) : Kp g w (w1.setCell ⟨g, k, none⟩ u) := fun b o' hb hn hg => (Below.heap_setCell w1 ⟨g, k, none⟩ u b (fun e => hg e.symm)).trans (h b o' hb hn hg)
theorem Kp.drew {w1 : World} (h : Kp g w w1) : Kp g w w1.drew := h
theorem Kp.row {w1 w2 : World} {v : Value} {xs : List Value} {k : Nat} (h : Kp g w w1) (hr : w1.ownsRow B 5 1 v k xs) (hg : w1.grownBy w2 v.ownBlock) : Kp g w w2 := fun b o' hb hn hgb => by
  have h1 := h b o' hb hn hgb
  refine (hg.block b (lt_heap h1) (fun e => ?_)).trans h1
  rcases hr.2 with ⟨rfl, _⟩ | ⟨g', cap, cur, rfl, _, hg', _⟩
  · simp [Value.ownBlock] at e
  · simp [Value.ownBlock] at e
    subst e
    rw [h1] at hg'
    cases hg'
    exact hn _ _ rfl
theorem Kp.below {w1 : World} (hb : Below w.heap.size w w1) : Kp g w w1 := fun b o h _ _ => (hb.block b (lt_heap h)).trans h
theorem Moved.of {m' : Mk} {n' : Nat} {w' : World} {vr' : Value} (h' : Lx w' B g n' m' vt vo vr') (hb : Below B w w') (hk : Kp g w w') : Moved B g n' m' vt vo w w' :=
  ⟨hb, vt, vo, vr', h', fun b o h1 h2 h3 h4 h5 => ⟨hk b o h1 h2 h3, h4, h5⟩⟩
theorem Moved.refl (h : Lx w B g n m vt vo vr) : Moved B g n m vt vo w w := Moved.of h (Below.refl _ _) (Kp.refl _ _)
theorem Moved.then {m' : Mk} {n' : Nat} {w1 w2 : World} {vt1 vo1 : Value} (hb : Below B w w1) (hk : Kept3 g vt vo vt1 vo1 w w1) (h : Moved B g n' m' vt1 vo1 w1 w2) : Moved B g n' m' vt vo w w2 := by
  obtain ⟨hb2, vt', vo', vr', hl, hk2⟩ := h
  refine ⟨hb.trans hb2, vt', vo', vr', hl, fun b o h1 h2 h3 h4 h5 => ?_⟩
  obtain ⟨q1, q2, q3⟩ := hk b o h1 h2 h3 h4 h5
  exact hk2 b o q1 h2 h3 q2 q3
theorem Kp.three {w1 : World} (h : Kp g w w1) : Kept3 g vt vo vt vo w w1 := fun b o h1 h2 h3 h4 h5 => ⟨h b o h1 h2 h3, h4, h5⟩
theorem Moved.drew {m' : Mk} {n' : Nat} {w' : World} (h : Moved B g n' m' vt vo w.drew w') : Moved B g n' m' vt vo w w' :=
  ⟨((Below.refl B w).drew).trans h.1, h.2⟩
theorem Kept3.trans {w1 w2 : World} {vt1 vo1 vt2 vo2 : Value} (h1 : Kept3 g vt vo vt1 vo1 w w1) (h2 : Kept3 g vt1 vo1 vt2 vo2 w1 w2) : Kept3 g vt vo vt2 vo2 w w2 := fun b o e1 e2 e3 e4 e5 => by
  obtain ⟨q1, q2, q3⟩ := h1 b o e1 e2 e3 e4 e5
  exact h2 b o q1 e2 e3 q2 q3
/-- A box that a call has made is none of the lexer's. -/
structure Apart (g b : Nat) (vt vo : Value) : Prop where
  g : g ≠ b
  t : vt.ownBlock ≠ some b
  o : vo.ownBlock ≠ some b
theorem Lx.apart (h : Lx w B g n m vt vo vr) : Apart g w.heap.size vt vo :=
  ⟨fun e => by have := lt_heap h.blk; omega, fun e => by have := (h.toks.lt _ e).2; omega, fun e => by have := (h.opns.lt _ e).2; omega⟩
theorem Kept3.box {w1 : World} {vt1 vo1 : Value} {b : Nat} {o : Obj} (h : Kept3 g vt vo vt1 vo1 w w1) (hb : w.heap[b]? = some o) (hn : NoU8 o) (ha : Apart g b vt vo) : w1.heap[b]? = some o ∧ Apart g b vt1 vo1 := by
  obtain ⟨q1, q2, q3⟩ := h b o hb hn ha.g ha.t ha.o
  exact ⟨q1, ha.g, q2, q3⟩
theorem Lx.setB {b k : Nat} {cs : Array Value} {t : TypeId} {u : Value} (h : Lx w B g n m vt vo vr) (hb : w.heap[b]? = some (.cells cs t (0, 0))) (ht : t ≠ 5) (ha : Apart g b vt vo) : Lx (w.setCell ⟨b, k, none⟩ u) B g n m vt vo vr :=
  { h with blk := (Below.heap_setCell w ⟨b, k, none⟩ u g ha.g).trans h.blk, toks := h.toks.kept (grown_setCell w ⟨b, k, none⟩ u) (.inr ha.t), opns := h.opns.kept (grown_setCell w ⟨b, k, none⟩ u) (.inr ha.o), runs := own_set hb ht h.runs }
theorem Kept3.setB {w1 : World} {vt1 vo1 : Value} {b k : Nat} {u : Value} (h : Kept3 g vt vo vt1 vo1 w w1) (hb : w.heap.size ≤ b) : Kept3 g vt vo vt1 vo1 w (w1.setCell ⟨b, k, none⟩ u) := fun b' o e1 e2 e3 e4 e5 => by
  obtain ⟨q1, q2, q3⟩ := h b' o e1 e2 e3 e4 e5
  exact ⟨(Below.heap_setCell w1 ⟨b, k, none⟩ u b' (fun e => by have := lt_heap e1; simp at e; omega)).trans q1, q2, q3⟩
theorem Kept3.alloc0 {w2 : World} {vt1 vo1 : Value} {o : Obj} (h : Kept3 g vt vo vt1 vo1 (w.alloc o) w2) : Kept3 g vt vo vt1 vo1 w w2 := fun b o' e1 e2 e3 e4 e5 =>
  h b o' ((Below.heap_alloc _ _ _ (lt_heap e1)).trans e1) e2 e3 e4 e5
theorem noU8 {cs : Array Value} {t : TypeId} {fz : Nat × Nat} (h : t ≠ 5) : NoU8 (.cells cs t fz) := fun cs' fz' e => by cases e; exact h rfl
theorem own_take {w : World} {b n n' cap s : Nat} {e : TypeId} {p : Option Addr} {xs : List Value} (h : w.ownsRow b e s (.slice p n cap) n xs) (hn : n' ≤ n) (hp : p ≠ none) : w.ownsRow b e s (.slice p n' cap) n' (xs.take (n' * s)) := by
  rcases h.2 with ⟨e1, _⟩ | ⟨g, cap, cur, e1, h1, h2, h3, h4, h5, h6⟩
  · cases e1; exact absurd rfl hp
  · cases e1
    have hle : n' * s ≤ n * s := Nat.mul_le_mul_right s hn
    refine ⟨by rw [List.length_take, h.1]; omega, .inr ⟨g, cap, cur, rfl, h1, h2, by omega, h4, h5, ?_⟩⟩
    rw [← h6, List.take_take]
    congr 1
    omega
end
end Go.Proofs.YtmceiehnfmgioaaGreatDoor
