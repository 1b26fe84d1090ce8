/- What is proved: LayoutHits holds of all lines, layouts and places (the statement's second form). Its condition: what comes in is of bulk at most 1048576. Part 12: its texts. -/
import Derived.Test.YtalomeialegmiaaGreatDoorKLayoutHits7
import Derived.Test.YtalomeialegmiaaGreatDoorKLayoutHits9
import Derived.WalkKit
import Derived.Test.YtalomeialegmiaaGreatDoorProg
import Derived.Lib.Hide
import Derived.IntWalk
import Derived.Laws.OwnMore
import Derived.Deep.AppendLies
import Derived.Below
import Derived.BigQuiet
import Derived.Deep.QuietTactic
import Derived.Maps.OwnSet
import Derived.Maps.OwnOps
import Derived.Maps.AppendAt
import Derived.WalkMore
import Derived.Lib.QuietBelow
import Derived.BigRegion
import Derived.Deep.RegionHeld3
import Derived.Deep.RegionHeld2
section
namespace Go.Proofs.YtalomeialegmiaaGreatDoor

structure Opr where
  k : Int
  n : Int
  t : ByteArray
  w : List Int
/-- A list or a table that is open: how many paragraphs a row has (0: a list), how many parts have begun, how many paragraphs the last one has. -/
structure Lv where
  wide : Nat
  parts : Nat
  cells : Nat
structure Wk where
  para : Bool
  br : List Int
  op : List Lv
  ah : Int
def wk0 : Wk := ⟨false, [], [], 0⟩
def isLk (k : Int) : Bool := decide (k = 3) || decide (k = 4)
def lv0 : Lv := ⟨0, 0, 0⟩
def topL (s : Wk) : Lv := s.op.getLast?.getD lv0
def tabB (o : Lv) : Bool := decide (0 < o.wide)
def shortB (o : Lv) : Bool := tabB o && decide (0 < o.parts) && decide (o.cells < o.wide)
def roomB (o : Lv) : Bool := decide (0 < o.parts) && (shortB o || !tabB o)
/-- Whether an operation of a kind may come next. -/
def mayS (s : Wk) (k : Int) : Bool :=
  if k = 3 ∨ k = 4 then !(s.br.any isLk) && decide (s.br.length ≠ 16) && s.para
  else if k = 2 then decide (s.br.length ≠ 16) && s.para
  else if k = 6 ∨ k = 7 then s.para
  else if k = 1 then s.para && decide (s.ah ≠ 1)
  else if k = 5 then decide (0 < s.br.length)
  else if k = 9 then s.para && decide (s.br.length = 0)
  else if k = 10 then decide (s.op.length ≠ 8) && !tabB (topL s) && !s.para && (decide (s.op.length = 0) || roomB (topL s))
  else if k = 8 then !s.para && (decide (s.op.length = 0) || roomB (topL s))
  else if k = 12 then !s.para && decide (s.op.length = 0)
  else if k = 11 then !s.para && decide (0 < s.op.length) && !tabB (topL s)
  else if k = 13 then tabB (topL s) && !s.para && decide (0 < s.op.length) && !shortB (topL s)
  else if k = 14 then !s.para && decide (0 < s.op.length) && !shortB (topL s)
  else false
def mapTop (f : Lv → Lv) (l : List Lv) : List Lv := l.dropLast ++ (l.getLast?.map f).toList
/-- What is open behind an operation. -/
def takeS (s : Wk) (o : Opr) : Wk :=
  if o.k = 2 ∨ o.k = 3 ∨ o.k = 4 then { s with br := s.br ++ [o.k], ah := o.k }
  else if o.k = 5 then { s with br := s.br.dropLast, ah := o.k }
  else if o.k = 8 then { s with para := true, op := mapTop (fun l => { l with cells := l.cells + 1 }) s.op, ah := o.k }
  else if o.k = 9 then { s with para := false, ah := o.k }
  else if o.k = 10 ∨ o.k = 12 then { s with op := s.op ++ [⟨o.w.length, 0, 0⟩], ah := o.k }
  else if o.k = 11 ∨ o.k = 13 then { s with op := mapTop (fun l => { l with parts := l.parts + 1, cells := 0 }) s.op, ah := o.k }
  else if o.k = 14 then { s with op := s.op.dropLast, ah := o.k }
  else { s with ah := o.k }
def endedB (s : Wk) : Bool := !s.para && decide (s.op.length = 0)
end Go.Proofs.YtalomeialegmiaaGreatDoor
end
section
namespace Go.Proofs.YtalomeialegmiaaGreatDoor.Ir
open Go.RowKit Go.Maps Go.Proofs.YtalomeialegmiaaGreatDoor
set_option linter.unusedVariables false

def SaysL (v : Value) (w : World) (e : Ending) (w' : World) : Prop := e = .returned v ∧ Below w.heap.size w w'
theorem cellInL {w : World} {a : Addr} {v : Value} (h : w.cell? a = some v) : a.block < w.heap.size := World.block_lt_of_cell? w _ h
def numsZ (zs : List Int) : List Value := zs.map (Value.int .i64)
/-- A list of numbers in memory, in blocks that P holds of. -/
def RdZ (P : Nat → Prop) (w : World) (v : Value) (zs : List Int) : Prop :=
  ∃ (pa : Option Addr) (cap : Nat), v = .slice pa zs.length cap ∧ zs.length ≤ cap ∧ cap ≤ maxLen ∧ ∀ j (hj : j < zs.length), ∃ b off, pa = some ⟨b, off, none⟩ ∧ P b ∧ w.cell? ⟨b, off + j, none⟩ = some (.int .i64 zs[j])
section
variable {P Q : Nat → Prop} {w w' : World} {v : Value} {zs : List Int}
theorem RdZ.keep (h : RdZ P w v zs) (hk : ∀ a : Addr, P a.block → a.block < w.heap.size → w'.cell? a = w.cell? a) : RdZ P w' v zs := by
  obtain ⟨pa, cap, e, h1, h2, h4⟩ := h
  refine ⟨pa, cap, e, h1, h2, fun j hj => ?_⟩
  obtain ⟨b, off, e, hp, hc⟩ := h4 j hj
  exact ⟨b, off, e, hp, (hk ⟨b, off + j, none⟩ hp (cellInL hc)).trans hc⟩
theorem RdZ.below (h : RdZ P w v zs) (hb : Below w.heap.size w w') : RdZ P w' v zs := h.keep fun _ _ ha => hb.cell ha
theorem RdZ.imp (h : RdZ P w v zs) (hq : ∀ b, b < w.heap.size → P b → Q b) : RdZ Q w v zs := by
  obtain ⟨pa, cap, e, h1, h2, h4⟩ := h
  refine ⟨pa, cap, e, h1, h2, fun j hj => ?_⟩
  obtain ⟨b, off, e, hp, hc⟩ := h4 j hj
  exact ⟨b, off, e, hq b (cellInL hc) hp, hc⟩
theorem RdZ.form (h : RdZ P w v zs) : ∃ (pa : Option Addr) (cap : Nat), v = .slice pa zs.length cap ∧ zs.length ≤ cap ∧ cap ≤ maxLen := by
  obtain ⟨pa, cap, e, h1, h2, _⟩ := h
  exact ⟨pa, cap, e, h1, h2⟩
theorem RdZ.cell {pa : Option Addr} {n cap : Nat} (h : RdZ P w (.slice pa n cap) zs) {j : Nat} (hj : j < zs.length) : ∃ b off, pa = some ⟨b, off, none⟩ ∧ w.cell? ⟨b, off + j, none⟩ = some (.int .i64 zs[j]) := by
  obtain ⟨pa', cap', e, _, _, h4⟩ := h
  cases e
  obtain ⟨b, off, e, _, hc⟩ := h4 j hj
  exact ⟨b, off, e, hc⟩
theorem RdZ.own {base n : Nat} (h : w.ownsRow base 3 1 v n (numsZ zs)) (hn : n = zs.length) : RdZ (base ≤ ·) w v zs := by
  subst hn
  rcases h.2 with ⟨rfl, h0⟩ | ⟨g, cap, cur, rfl, hb, hg, h1, h2, h3, h4⟩
  · have : zs = [] := List.eq_nil_of_length_eq_zero h0
    subst this
    exact ⟨none, 0, rfl, Nat.le_refl _, Nat.zero_le _, fun i hi => absurd hi (by simp)⟩
  · refine ⟨_, cap, rfl, h1, h2, fun j hj => ⟨g, 0, rfl, hb, ?_⟩⟩
    rw [Nat.zero_add]
    have := World.ownsRow.cellAt h j (by omega)
    rw [this]
    simp [numsZ, hj]
end
theorem infoI : (Tryz.prog.info? 3).map (fun i => (i.zero, i.size, i.bytes)) = some (some (.int .i64 0), 1, 8) := by kernel_rfl
theorem own_base {W : World} {base : Nat} {e : TypeId} {size : Nat} {v : Value} {n : Nat} {xs : List Value} (h : W.ownsRow base e size v n xs) {c : Nat} (hc : v.ownBlock = some c) : base ≤ c ∧ c < W.heap.size := h.lt c hc
theorem own_stays {W W' : World} {base : Nat} {e : TypeId} {size : Nat} {v : Value} {n : Nat} {xs : List Value} (h : W.ownsRow base e size v n xs) (hk : ∀ c, v.ownBlock = some c → W'.heap[c]? = W.heap[c]?) : W'.ownsRow base e size v n xs := by
  refine ⟨h.1, ?_⟩
  rcases h.2 with h0 | ⟨g, cap, cur, h1, h2, h3, h4⟩
  · exact .inl h0
  · exact .inr ⟨g, cap, cur, h1, h2, (hk g (by rw [h1]; rfl)).trans h3, h4⟩
theorem own_below {W W' : World} {base : Nat} {e : TypeId} {size : Nat} {v : Value} {n : Nat} {xs : List Value} (h : W.ownsRow base e size v n xs) (hb : Below W.heap.size W W') : W'.ownsRow base e size v n xs :=
  own_stays h fun c hc => hb.block c (own_base h hc).2
theorem own_ne {W : World} {b1 b2 : Nat} {e1 e2 : TypeId} {s1 s2 : Nat} {v1 v2 : Value} {n1 n2 : Nat} {x1 x2 : List Value} (h1 : W.ownsRow b1 e1 s1 v1 n1 x1) (h2 : W.ownsRow b2 e2 s2 v2 n2 x2) (hne : e1 ≠ e2) {c : Nat} (hc : v1.ownBlock = some c) : v2.ownBlock ≠ some c := by
  intro hd
  rcases h1.2 with ⟨rfl, _⟩ | ⟨g, cap, cur, rfl, _, hg, _⟩
  · simp [Value.ownBlock] at hc
  · rcases h2.2 with ⟨rfl, _⟩ | ⟨g2, cap2, cur2, rfl, _, hg2, _⟩
    · simp [Value.ownBlock] at hd
    · obtain rfl : g = c := by simpa [Value.ownBlock] using hc
      obtain rfl : g2 = g := by simpa [Value.ownBlock] using hd
      rw [hg] at hg2
      injection hg2 with h
      injection h with _ h
      exact hne h
theorem own_lower {W : World} {base base' : Nat} {e : TypeId} {size : Nat} {v : Value} {n : Nat} {xs : List Value} (h : W.ownsRow base e size v n xs) (hb : base' ≤ base) : W.ownsRow base' e size v n xs := by
  refine ⟨h.1, ?_⟩
  rcases h.2 with h0 | ⟨g, cap, cur, h1, h2, h3⟩
  · exact .inl h0
  · exact .inr ⟨g, cap, cur, h1, Nat.le_trans hb h2, h3⟩
theorem lenL {w : World} {base : Nat} {e : TypeId} {size : Nat} {v : Value} {n : Nat} {xs : List Value} (h : w.ownsRow base e size v n xs) : ∃ (p : Option Addr) (c : Nat), v = .slice p n c := by
  rcases h.2 with ⟨rfl, h0⟩ | ⟨g, cap, cur, rfl, _⟩
  · exact ⟨none, 0, by rw [h0]⟩
  · exact ⟨_, _, rfl⟩

/-- An operation's four cells. -/
def OprIs (P : Nat → Prop) (W : World) (b o : Nat) (x : Opr) : Prop :=
  W.cell? ⟨b, o, none⟩ = some (.int .i64 x.k) ∧ W.cell? ⟨b, o + 1, none⟩ = some (.int .i64 x.n) ∧ W.cell? ⟨b, o + 2, none⟩ = some (.string x.t) ∧ ∃ wv, W.cell? ⟨b, o + 3, none⟩ = some wv ∧ RdZ P W wv x.w
/-- Operations in memory. -/
def RdO (P : Nat → Prop) (w : World) (v : Value) (l : List Opr) : Prop :=
  ∃ (pa : Option Addr) (cap : Nat), v = .slice pa l.length cap ∧ l.length ≤ cap ∧ cap ≤ maxLen ∧ ∀ j (hj : j < l.length), ∃ b off, pa = some ⟨b, off, none⟩ ∧ P b ∧ OprIs P w b (off + j * 4) l[j]
section
variable {P Q : Nat → Prop} {w w' : World} {v : Value} {l : List Opr}
theorem OprIs.keep {b o : Nat} {x : Opr} (h : OprIs P w b o x) (hp : P b) (hk : ∀ a : Addr, P a.block → a.block < w.heap.size → w'.cell? a = w.cell? a) : OprIs P w' b o x := by
  obtain ⟨h0, h1, h2, wv, h3, h4⟩ := h
  exact ⟨(hk ⟨b, o, none⟩ hp (cellInL h0)).trans h0, (hk ⟨b, o + 1, none⟩ hp (cellInL h1)).trans h1, (hk ⟨b, o + 2, none⟩ hp (cellInL h2)).trans h2, wv, (hk ⟨b, o + 3, none⟩ hp (cellInL h3)).trans h3, h4.keep hk⟩
theorem RdO.keep (h : RdO P w v l) (hk : ∀ a : Addr, P a.block → a.block < w.heap.size → w'.cell? a = w.cell? a) : RdO P w' v l := by
  obtain ⟨pa, cap, e, h1, h2, h4⟩ := h
  refine ⟨pa, cap, e, h1, h2, fun j hj => ?_⟩
  obtain ⟨b, off, e, hp, hc⟩ := h4 j hj
  exact ⟨b, off, e, hp, hc.keep hp hk⟩
theorem RdO.below (h : RdO P w v l) (hb : Below w.heap.size w w') : RdO P w' v l := h.keep fun _ _ ha => hb.cell ha
theorem RdO.imp (h : RdO P w v l) (hq : ∀ b, b < w.heap.size → P b → Q b) : RdO Q w v l := by
  obtain ⟨pa, cap, e, h1, h2, h4⟩ := h
  refine ⟨pa, cap, e, h1, h2, fun j hj => ?_⟩
  obtain ⟨b, off, e, hp, h5, h6, h7, wv, h8, h9⟩ := h4 j hj
  exact ⟨b, off, e, hq b (cellInL h5) hp, h5, h6, h7, wv, h8, h9.imp hq⟩
theorem RdO.form (h : RdO P w v l) : ∃ (pa : Option Addr) (cap : Nat), v = .slice pa l.length cap ∧ l.length ≤ cap ∧ cap ≤ maxLen := by
  obtain ⟨pa, cap, e, h1, h2, _⟩ := h
  exact ⟨pa, cap, e, h1, h2⟩
theorem RdO.at_ {pa : Option Addr} {n cap : Nat} (h : RdO P w (.slice pa n cap) l) {j : Nat} (hj : j < l.length) : ∃ b off, pa = some ⟨b, off, none⟩ ∧ OprIs P w b (off + j * 4) l[j] := by
  obtain ⟨pa', cap', e, _, _, h4⟩ := h
  cases e
  obtain ⟨b, off, e, _, hc⟩ := h4 j hj
  exact ⟨b, off, e, hc⟩
end
section
variable {B : Nat} {w w' : World} {v : Value} {ps : List (Opr × Value)}
theorem own_one {base : Nat} {e : TypeId} {size n : Nat} {xs : List Value} (h : w.ownsRow base e size v n xs) : v.oneCell' = true := by
  obtain ⟨p, c, rfl⟩ := lenL h
  rfl
end
end Go.Proofs.YtalomeialegmiaaGreatDoor.Ir
end
section
namespace Go.Proofs.YtalomeialegmiaaGreatDoor.Ir
open Go.RowKit Go.Maps Go.Proofs.YtalomeialegmiaaGreatDoor
set_option linter.unusedVariables false

def lvVal (o : Lv) : Value := .agg #[.int .i64 (o.wide : Nat), .int .i64 (o.parts : Nat), .int .i64 (o.cells : Nat)]
/-- The 44 cells of what is open. -/
structure CurIs (c : Array Value) (s : Wk) : Prop where
  size : c.size = 44
  all : ∀ j, j < 24 → ∃ z, c[j]? = some (.int .i64 z)
  op : ∀ j (hj : j < s.op.length), c[j * 3]? = some (.int .i64 (s.op[j].wide : Nat)) ∧ c[j * 3 + 1]? = some (.int .i64 (s.op[j].parts : Nat)) ∧ c[j * 3 + 2]? = some (.int .i64 (s.op[j].cells : Nat))
  depth : c[24]? = some (.int .i64 (s.op.length : Nat))
  br : ∀ j (hj : j < s.br.length), c[25 + j]? = some (.int .i64 s.br[j])
  nest : c[41]? = some (.int .i64 (s.br.length : Nat))
  para : c[42]? = some (.bool s.para)
  ah : c[43]? = some (.int .i64 s.ah)
  hop : s.op.length ≤ 8
  hbr : s.br.length ≤ 16
def WkIs (M : Nat) (w : World) (s : Wk) : Prop := ∃ c : Array Value, w.heap[M]? = some (.cells c 127 (0, 0)) ∧ CurIs c s
theorem WkIs.lt {M : Nat} {w : World} {s : Wk} (h : WkIs M w s) : M < w.heap.size := by
  obtain ⟨c, h1, _⟩ := h
  exact (Array.getElem?_eq_some_iff.1 h1).1
theorem WkIs.below {M : Nat} {w w' : World} {s : Wk} (h : WkIs M w s) (hb : Below w.heap.size w w') : WkIs M w' s := by
  obtain ⟨c, h1, h2⟩ := h
  exact ⟨c, (hb.block M (Array.getElem?_eq_some_iff.1 h1).1).trans h1, h2⟩
theorem WkIs.cells {M : Nat} {w : World} {s : Wk} (h : WkIs M w s) : w.cell? ⟨M, 24, none⟩ = some (.int .i64 (s.op.length : Nat)) ∧ w.cell? ⟨M, 41, none⟩ = some (.int .i64 (s.br.length : Nat)) ∧ w.cell? ⟨M, 42, none⟩ = some (.bool s.para) ∧ w.cell? ⟨M, 43, none⟩ = some (.int .i64 s.ah) := by
  obtain ⟨c, h1, h2⟩ := h
  refine ⟨?_, ?_, ?_, ?_⟩ <;> rw [cell_of_row _ _ _ _ _ _ h1]
  · exact h2.depth
  · exact h2.nest
  · exact h2.para
  · exact h2.ah
theorem WkIs.lv {M : Nat} {w : World} {s : Wk} (h : WkIs M w s) {j : Nat} (hj : j < s.op.length) : w.cell? ⟨M, j * 3, none⟩ = some (.int .i64 (s.op[j].wide : Nat)) ∧ w.cell? ⟨M, j * 3 + 1, none⟩ = some (.int .i64 (s.op[j].parts : Nat)) ∧ w.cell? ⟨M, j * 3 + 2, none⟩ = some (.int .i64 (s.op[j].cells : Nat)) := by
  obtain ⟨c, h1, h2⟩ := h
  obtain ⟨a, b, d⟩ := h2.op j hj
  refine ⟨?_, ?_, ?_⟩ <;> rw [cell_of_row _ _ _ _ _ _ h1]
  · exact a
  · exact b
  · exact d
theorem WkIs.brace {M : Nat} {w : World} {s : Wk} (h : WkIs M w s) {j : Nat} (hj : j < s.br.length) : w.cell? ⟨M, 25 + j, none⟩ = some (.int .i64 s.br[j]) := by
  obtain ⟨c, h1, h2⟩ := h
  rw [cell_of_row _ _ _ _ _ _ h1]
  exact h2.br j hj
theorem WkIs.bounds {M : Nat} {w : World} {s : Wk} (h : WkIs M w s) : s.op.length ≤ 8 ∧ s.br.length ≤ 16 := by
  obtain ⟨c, _, h2⟩ := h
  exact ⟨h2.hop, h2.hbr⟩
theorem topL_at {s : Wk} (h : 0 < s.op.length) : topL s = s.op[s.op.length - 1] := by
  unfold topL
  rw [List.getLast?_eq_getElem?, List.getElem?_eq_getElem (by omega)]
  rfl
theorem topL_none {s : Wk} (h : s.op.length = 0) : topL s = lv0 := by
  unfold topL
  rw [List.eq_nil_of_length_eq_zero h]
  rfl

set_option maxRecDepth 100000 in
theorem within_pro (a lo hi : Int) (w : World) : Calls Tryz.prog 97 #[.int .i64 a, .int .i64 lo, .int .i64 hi] w fun e w' => e = .returned (.bool (decide (lo ≤ a ∧ a < hi))) ∧ w = w' := by
  by_cases h1 : lo ≤ a
  · by_cases h2 : a < hi
    · rw [decide_eq_true (show lo ≤ a ∧ a < hi from ⟨h1, h2⟩)]
      go_enter Tryz.func97, Tryz.ntmps97
      go_wp2_with fail
      go_ret
      exact ⟨rfl, rfl⟩
    · rw [decide_eq_false (show ¬ (lo ≤ a ∧ a < hi) by omega)]
      go_enter Tryz.func97, Tryz.ntmps97
      go_wp2_with fail
      go_ret
      exact ⟨rfl, rfl⟩
  · rw [decide_eq_false (show ¬ (lo ≤ a ∧ a < hi) by omega)]
    go_enter Tryz.func97, Tryz.ntmps97
    go_wp2_with fail
    go_ret
    exact ⟨rfl, rfl⟩
set_option maxRecDepth 100000 in
theorem isLink_pro (k : Int) (w : World) : Calls Tryz.prog 101 #[.int .i64 k] w fun e w' => e = .returned (.bool (isLk k)) ∧ w = w' := by
  by_cases h1 : k = 3
  · subst h1
    go_enter Tryz.func101, Tryz.ntmps101
    go_wp2_with fail
    go_ret
    exact ⟨rfl, rfl⟩
  · by_cases h2 : k = 4
    · subst h2
      go_enter Tryz.func101, Tryz.ntmps101
      go_wp2_with fail
      go_ret
      exact ⟨rfl, rfl⟩
    · have h3 : (k == 3) = false := by simpa using h1
      have h4 : (k == 4) = false := by simpa using h2
      have h5 : isLk k = false := by unfold isLk; rw [decide_eq_false h1, decide_eq_false h2]; rfl
      rw [h5]
      clear h1 h2 h5
      go_enter Tryz.func101, Tryz.ntmps101
      go_wp2_with fail
      go_ret
      exact ⟨rfl, rfl⟩
set_option maxRecDepth 100000 in
theorem table_pro (o : Lv) (w : World) : Calls Tryz.prog 102 #[lvVal o] w (SaysL (.bool (tabB o)) w) := by
  unfold lvVal tabB
  have HB := Lib.hid ((Below.refl w.heap.size w).alloc (Nat.le_refl _) (.cells #[.int .i64 (o.wide : Nat), .int .i64 (o.parts : Nat), .int .i64 (o.cells : Nat)] 123))
  by_cases h1 : 0 < o.wide
  · rw [decide_eq_true h1]
    have h2 : (0 : Int) < (o.wide : Nat) := by omega
    go_enter Tryz.func102, Tryz.ntmps102
    go_wp2_with fail
    go_ret
    exact ⟨rfl, HB.out⟩
  · rw [decide_eq_false h1]
    have h2 : ¬ (0 : Int) < (o.wide : Nat) := by omega
    go_enter Tryz.func102, Tryz.ntmps102
    go_wp2_with fail
    go_ret
    exact ⟨rfl, HB.out⟩
set_option maxRecDepth 100000 in
theorem ended_pro (M : Nat) (s : Wk) (w : World) (h : WkIs M w s) : Calls Tryz.prog 56 #[.pointer (some ⟨M, 0, none⟩)] w fun e w' => e = .returned (.bool (endedB s)) ∧ w = w' := by
  obtain ⟨c0, c1, c2, c3⟩ := h.cells
  unfold endedB
  obtain ⟨pa, br, op, ah⟩ := s
  dsimp only at c0 c1 c2 c3 ⊢
  clear c1 c3 h
  cases pa with
  | true =>
    go_enter Tryz.func56, Tryz.ntmps56
    go_wp2_with fail
    go_ret
    exact ⟨rfl, rfl⟩
  | false =>
    by_cases h1 : op.length = 0
    · rw [h1] at c0
      rw [decide_eq_true h1]
      clear h1
      go_enter Tryz.func56, Tryz.ntmps56
      go_wp2_with fail
      go_ret
      exact ⟨rfl, rfl⟩
    · rw [decide_eq_false h1]
      have h2 : ((op.length : Int) == 0) = false := by simpa using h1
      clear h1
      go_enter Tryz.func56, Tryz.ntmps56
      go_wp2_with fail
      go_ret
      exact ⟨rfl, rfl⟩
set_option maxRecDepth 100000 in
set_option maxHeartbeats 1000000 in
theorem innermost_pro (M : Nat) (s : Wk) (w : World) (h : WkIs M w s) : Calls Tryz.prog 99 #[.pointer (some ⟨M, 0, none⟩)] w (SaysL (lvVal (topL s)) w) := by
  obtain ⟨c0, c1, c2, c3⟩ := h.cells
  have hbd := h.bounds.1
  have hL := h.lt
  by_cases h1 : s.op.length = 0
  · rw [h1] at c0
    rw [topL_none h1]
    have HB := Lib.hid ((Below.refl w.heap.size w).alloc (Nat.le_refl _) (.cells #[.int .i64 0, .int .i64 0, .int .i64 0] 123))
    clear h1 c1 c2 c3 h hbd
    go_enter Tryz.func99, Tryz.ntmps99
    go_wp2_with fail
    exact bodyPost_ret (v := lvVal lv0) (by simp [results, Tryz.results99, go_sem, lvVal, lv0]) rfl ⟨rfl, HB.out⟩
  · have h2 : ((s.op.length : Int) == 0) = false := by simpa using h1
    obtain ⟨d0, d1, d2⟩ := h.lv (j := s.op.length - 1) (by omega)
    rw [← topL_at (by omega)] at d0 d1 d2
    obtain ⟨t, ht⟩ : ∃ t, topL s = t := ⟨_, rfl⟩
    rw [ht] at d0 d1 d2 ⊢
    obtain ⟨n, hn⟩ : ∃ n, s.op.length = n + 1 := ⟨s.op.length - 1, by omega⟩
    rw [hn] at c0 d0 d1 d2 h2
    have e1 : wrap64 (((n + 1 : Nat) : Int) - 1) = (n : Int) := by unfold wrap64; omega
    have e2 : ((n + 1 : Nat) : Int) - 1 = (n : Int) := by omega
    rw [show n + 1 - 1 = n by omega] at d0 d1 d2
    have n8 : (n : Int) < 8 := by omega
    have n8' : n < 8 := by omega
    have HB := Lib.hid ((Below.refl w.heap.size w).alloc (Nat.le_refl _) (.cells #[.int .i64 (t.wide : Nat), .int .i64 (t.parts : Nat), .int .i64 (t.cells : Nat)] 123))
    clear c1 c2 c3 h hbd h1 ht hn
    go_enter Tryz.func99, Tryz.ntmps99
    go_wp2_with fail
    go_region
    go_wp2_with fail
    exact bodyPost_ret (v := lvVal t) (by simp [results, Tryz.results99, go_sem, lvVal]) rfl ⟨rfl, HB.out.drew⟩
end Go.Proofs.YtalomeialegmiaaGreatDoor.Ir
end
section
namespace Go.Proofs.YtalomeialegmiaaGreatDoor.Ir
open Go.RowKit Go.Maps Go.Proofs.YtalomeialegmiaaGreatDoor
set_option linter.unusedVariables false
def plainB (t : ByteArray) : Bool := ((chars t).find? unplain).isNone
def widB (l : List Int) : Bool := decide (1 ≤ (l.length : Int) ∧ (l.length : Int) < 9) && !(l.any fun z => !decide (0 ≤ z ∧ z < 101))
/-- Whether an operation by itself may be. -/
def fitB (x : Opr) (st tp : Int) : Bool :=
  if x.k = 1 then plainB x.t && !decide (x.t.size = 0) && decide (x.n = 0) && decide (x.w.length = 0)
  else if x.k = 2 then decide (0 ≤ x.n ∧ x.n < st) && decide (x.t.size = 0) && decide (x.w.length = 0)
  else if x.k = 3 ∨ x.k = 4 then decide (0 ≤ x.n ∧ x.n < tp) && decide (x.t.size = 0) && decide (x.w.length = 0)
  else if x.k = 8 then decide (-1 ≤ x.n ∧ x.n < st) && decide (x.t.size = 0) && decide (x.w.length = 0)
  else if x.k = 10 then decide (0 ≤ x.n ∧ x.n < 2) && decide (x.t.size = 0) && decide (x.w.length = 0)
  else if x.k = 12 then widB x.w && decide (x.n = 0) && decide (x.t.size = 0)
  else decide (x.n = 0) && decide (x.t.size = 0) && decide (x.w.length = 0)
def sumT : List Opr → Nat
  | [] => 0
  | x :: l => x.t.size + sumT l
theorem sumT_app (a b : List Opr) : sumT (a ++ b) = sumT a + sumT b := by
  induction a with
  | nil => simp [sumT]
  | cons x a ih => simp only [List.cons_append, sumT, ih]; omega
theorem sumT_take {l : List Opr} {k : Nat} (h : k < l.length) : sumT (l.take (k + 1)) = sumT (l.take k) + l[k].t.size := by
  rw [List.take_succ_eq_append_getElem h, sumT_app]
  rfl
theorem sumT_le (l : List Opr) (k : Nat) : sumT (l.take k) ≤ sumT l := by
  have h : sumT l = sumT (l.take k) + sumT (l.drop k) := by rw [← sumT_app, List.take_append_drop]
  omega
theorem sumT_mem {l : List Opr} {x : Opr} (h : x ∈ l) : x.t.size ≤ sumT l := by
  induction l with
  | nil => cases h
  | cons y l ih =>
    simp only [sumT]
    rcases List.mem_cons.1 h with rfl | h
    · omega
    · have := ih h; omega
def sizeOk (l : List Opr) : Prop := sumT l ≤ 4611686018427387904
theorem sliceN {P : Nat → Prop} {w : World} {v : Value} {l : List Opr} (h : RdO P w v l) : ∃ (pa : Option Addr) (cap : Nat), v = .slice pa l.length cap ∧ l.length ≤ cap ∧ cap ≤ 9223372036854775807 := by
  obtain ⟨pa, cap, e, h1, h2⟩ := h.form
  exact ⟨pa, cap, e, h1, by unfold maxLen at h2; omega⟩
set_option maxRecDepth 100000 in
set_option maxHeartbeats 1000000 in
theorem bytes_pro {P : Nat → Prop} (l : List Opr) (v : Value) (w : World) (h : RdO P w v l) (hz : sizeOk l) : Calls Tryz.prog 52 #[v] w (SaysL (.int .i64 (sumT l : Nat)) w) := by
  obtain ⟨pa, cap, rfl, hc1, hc2⟩ := sliceN h
  have HH := Lib.hid h
  have HZ := Lib.hid hz
  obtain ⟨n, hn⟩ : ∃ n, l.length = n := ⟨_, rfl⟩
  have HN := Lib.hid hn
  rw [hn] at HH hc1 ⊢
  have hn62 : n ≤ 9223372036854775807 := by omega
  clear h hz hn hc1
  go_enter Tryz.func52, Tryz.ntmps52
  go_wp2_with fail
  go_loopw [3, 8] (fun s3 i wr => ∃ k : Nat, i = .int .i64 k ∧ s3 = .int .i64 (sumT (l.take k) : Nat) ∧ k ≤ n ∧ Hid (Below w.heap.size w wr)) (fun _ i _ => n - (intOf i).toNat)
  case atStart => exact ⟨0, rfl, by simp [sumT], Nat.zero_le _, Lib.hid (Below.refl _ _)⟩
  case round =>
    obtain ⟨k, rfl, rfl, hk, HB⟩ := hrel
    by_cases hlt : k < n
    · have hkl : k < l.length := by rw [HN.out]; exact hlt
      obtain ⟨b, off, rfl, c0, c1, c2, wv, c3, h4⟩ := (HH.out.below HB.out).at_ hkl
      have hs := sumT_take hkl
      have hle := Nat.le_trans (sumT_le l (k + 1)) HZ.out
      obtain ⟨x, hx⟩ : ∃ x, l[k] = x := ⟨_, rfl⟩
      obtain ⟨p4, q4, rfl, _, _⟩ := h4.form
      rw [hx] at c0 c1 c2 c3 hs
      obtain ⟨z4, hz4⟩ : ∃ z4, x.w.length = z4 := ⟨_, rfl⟩
      rw [hz4] at c3
      obtain ⟨q, hq⟩ : ∃ q, sumT (l.take k) = q := ⟨_, rfl⟩
      rw [hq] at hs ⊢
      rw [hs] at hle
      have HS := Lib.hid hs
      have k1 : (k : Int) < n := by omega
      have w1 : wrap64 ((q : Int) + (x.t.size : Nat)) = ((q + x.t.size : Nat) : Int) := by unfold wrap64; omega
      have HB2 := Lib.hid (HB.out.alloc HB.out.size (.cells #[.int .i64 x.k, .int .i64 x.n, .string x.t, .slice p4 z4 q4] 65))
      clear hs hle hx hq h4 hz4
      go_wp2_with fail
      go_roundw
      case measure => simp [intOf]; omega
      case rel => exact ⟨k + 1, by go_num, by rw [HS.out, w1], by omega, HB2⟩
    · obtain rfl : k = n := by omega
      have hz1 : ¬ (k : Int) < k := by omega
      have HE := Lib.hid (show sumT (l.take k) = sumT l by rw [← HN.out, List.take_length])
      clear hlt
      go_wp2_with fail
      go_ret
      exact ⟨by first | (rw [HE.out]; done) | (rw [HE.out]; rfl), HB.out⟩
/-- The number of the first of which p holds, or -1. -/
def zAt (p : Int → Bool) : List Int → Nat → Int
  | [], _ => -1
  | z :: l, i => if p z then (i : Int) else zAt p l (i + 1)
theorem zAt_step {p : Int → Bool} {l : List Int} {i : Nat} (h : i < l.length) : zAt p (l.drop i) i = if p l[i] then (i : Int) else zAt p (l.drop (i + 1)) (i + 1) := by
  rw [List.drop_eq_getElem_cons h]
  rfl
theorem zAt_any (p : Int → Bool) : ∀ (l : List Int) (i : Nat), decide (0 ≤ zAt p l i) = l.any p
  | [], i => rfl
  | z :: l, i => by
    unfold zAt
    cases h : p z with
    | true => simp [h]
    | false => simp [h]; exact zAt_any p l (i + 1)

set_option maxRecDepth 100000 in
set_option maxHeartbeats 1000000 in
theorem index_wide {P : Nat → Prop} (p : Int → Bool) (l : List Int) (v : Value) (w : World) (h : RdZ P w v l) (hf : ∀ (z : Int) (W : World), Below w.heap.size w W → Calls Tryz.prog 135 #[.int .i64 z] W (SaysL (.bool (p z)) W)) :
    Calls Tryz.prog 149 #[v, .func (.func 135) #[] #[]] w (SaysL (.int .i64 (zAt p l 0)) w) := by
  obtain ⟨pa, cap, rfl, hc, hm⟩ := h.form
  have HH := Lib.hid h
  have HF := Lib.hid hf
  obtain ⟨n, hn⟩ : ∃ n, l.length = n := ⟨_, rfl⟩
  have HN := Lib.hid hn
  rw [hn] at HH hc ⊢
  have hn62 : n ≤ 9223372036854775807 := by unfold maxLen at hm; omega
  clear h hn hf hm hc
  go_enter Tryz.func149, Tryz.ntmps149
  go_wp2_with fail
  go_loopw [8] (fun i wr => ∃ k : Nat, i = .int .i64 k ∧ k ≤ n ∧ Hid (zAt p (l.drop k) k = zAt p l 0) ∧ Hid (Below w.heap.size w wr)) (fun i _ => n - (intOf i).toNat)
  case atStart => exact ⟨0, rfl, Nat.zero_le _, Lib.hid rfl, Lib.hid (Below.refl _ _)⟩
  case round =>
    obtain ⟨k, rfl, hk, HE, HB⟩ := hrel
    by_cases hlt : k < n
    · have hkl : k < l.length := by rw [HN.out]; exact hlt
      obtain ⟨b, off, rfl, c0⟩ := (HH.out.below HB.out).cell hkl
      have hs := zAt_step (p := p) hkl
      obtain ⟨x, hx⟩ : ∃ x, l[k] = x := ⟨_, rfl⟩
      rw [hx] at c0 hs
      have HC := Lib.hid (HF.out x wr HB.out)
      obtain ⟨q, hq⟩ : ∃ q, p x = q := ⟨_, rfl⟩
      rw [hq] at HC hs
      have k1 : (k : Int) < n := by omega
      clear hx hq
      cases q with
      | true =>
        rw [if_pos rfl] at hs
        have HZ := Lib.hid (HE.out.symm.trans hs)
        clear hs
        go_wp2_with fail
        refine HC.out.mono ?_
        rintro e w1 ⟨rfl, hb⟩
        have HB1 := Lib.hid (HB.out.trans (hb.mono HB.out.size))
        clear hb
        go_wp2_with fail
        go_ret
        rw [HZ.out]
        exact ⟨rfl, HB1.out⟩
      | false =>
        rw [if_neg (by decide)] at hs
        have HZ := Lib.hid (hs.symm.trans HE.out)
        clear hs
        go_wp2_with fail
        refine HC.out.mono ?_
        rintro e w1 ⟨rfl, hb⟩
        have HB1 := Lib.hid (HB.out.trans (hb.mono HB.out.size))
        clear hb
        go_wp2_with fail
        go_roundw
        case measure => simp [intOf]; omega
        case rel => exact ⟨k + 1, by go_num, by omega, HZ, HB1⟩
    · have hz : zAt p l 0 = -1 := by rw [← HE.out, List.drop_eq_nil_of_le (by rw [HN.out]; omega)]; rfl
      have HZ := Lib.hid hz
      have k1 : ¬ (k : Int) < n := by omega
      clear hz
      go_wp2_with fail
      go_ret
      rw [HZ.out]
      exact ⟨rfl, HB.out⟩
set_option maxRecDepth 100000 in
theorem any_wide {P : Nat → Prop} (p : Int → Bool) (l : List Int) (v : Value) (w : World) (h : RdZ P w v l) (hf : ∀ (z : Int) (W : World), Below w.heap.size w W → Calls Tryz.prog 135 #[.int .i64 z] W (SaysL (.bool (p z)) W)) :
    Calls Tryz.prog 118 #[v, .func (.func 135) #[] #[]] w (SaysL (.bool (l.any p)) w) := by
  have HI := Lib.hid (index_wide p l v w h hf)
  rw [← zAt_any p l 0]
  obtain ⟨i, hi⟩ : ∃ i, zAt p l 0 = i := ⟨_, rfl⟩
  rw [hi] at HI ⊢
  obtain ⟨pa, cap, rfl, _, _⟩ := h.form
  obtain ⟨n, hn⟩ : ∃ n, l.length = n := ⟨_, rfl⟩
  rw [hn] at HI ⊢
  clear h hi hn hf
  by_cases h0 : 0 ≤ i
  · rw [decide_eq_true h0]
    go_enter Tryz.func118, Tryz.ntmps118
    go_wp2_with fail
    refine HI.out.mono ?_
    rintro e w1 ⟨rfl, hb⟩
    have HB := Lib.hid hb
    clear hb
    go_wp2_with fail
    go_ret
    exact ⟨rfl, HB.out⟩
  · have h1 := decide_eq_false h0
    rw [h1]
    go_enter Tryz.func118, Tryz.ntmps118
    go_wp2_with fail
    refine HI.out.mono ?_
    rintro e w1 ⟨rfl, hb⟩
    have HB := Lib.hid hb
    clear hb
    go_wp2_with fail
    go_ret
    exact ⟨rfl, HB.out⟩

set_option maxRecDepth 100000 in
theorem wide1_pro (z : Int) (W : World) : Calls Tryz.prog 135 #[.int .i64 z] W (SaysL (.bool (!decide (0 ≤ z ∧ z < 101))) W) := by
  have HW := Lib.hid (within_pro z 0 101 W)
  obtain ⟨q, hq⟩ : ∃ q, decide (0 ≤ z ∧ z < 101) = q := ⟨_, rfl⟩
  rw [hq] at HW ⊢
  clear hq
  go_enter Tryz.func135, Tryz.ntmps135
  go_wp2_with fail
  refine HW.out.mono ?_
  rintro e w1 ⟨rfl, rfl⟩
  go_wp2_with fail
  go_ret
  exact ⟨rfl, Below.refl _ _⟩
set_option maxRecDepth 100000 in
set_option maxHeartbeats 1000000 in
theorem widths_pro {P : Nat → Prop} (l : List Int) (v : Value) (w : World) (h : RdZ P w v l) : Calls Tryz.prog 98 #[v] w (SaysL (.bool (widB l)) w) := by
  have HA := Lib.hid (any_wide (fun z => !decide (0 ≤ z ∧ z < 101)) l v w h (fun z W _ => wide1_pro z W))
  obtain ⟨pa, cap, rfl, _, _⟩ := h.form
  unfold widB
  obtain ⟨u, hu⟩ : ∃ u, (l.any fun z => !decide (0 ≤ z ∧ z < 101)) = u := ⟨_, rfl⟩
  rw [hu] at HA ⊢
  obtain ⟨n, hn⟩ : ∃ n, l.length = n := ⟨_, rfl⟩
  rw [hn] at HA ⊢
  have HW := Lib.hid (within_pro n 1 9 w)
  obtain ⟨q, hq⟩ : ∃ q, decide (1 ≤ (n : Int) ∧ (n : Int) < 9) = q := ⟨_, rfl⟩
  rw [hq] at HW ⊢
  clear h hu hn hq
  cases q with
  | false =>
    go_enter Tryz.func98, Tryz.ntmps98
    go_wp2_with fail
    refine HW.out.mono ?_
    rintro e w1 ⟨rfl, rfl⟩
    go_wp2_with fail
    go_ret
    exact ⟨rfl, Below.refl _ _⟩
  | true =>
    go_enter Tryz.func98, Tryz.ntmps98
    go_wp2_with fail
    refine HW.out.mono ?_
    rintro e w1 ⟨rfl, rfl⟩
    go_wp2_with fail
    refine HA.out.mono ?_
    rintro e w2 ⟨rfl, hb⟩
    have HB := Lib.hid hb
    clear hb
    go_wp2_with fail
    go_ret
    exact ⟨rfl, HB.out⟩
set_option maxRecDepth 100000 in
set_option maxHeartbeats 1000000 in
theorem isText_pro (t : ByteArray) (w : World) (hs : t.size ≤ 16777216) (hT : Tabs w) : Calls Tryz.prog 96 #[.string t] w (SaysL (.bool (plainB t && !decide (t.size = 0))) w) := by
  have HP := Lib.hid (plain_pro t w hs hT)
  obtain ⟨q, hq⟩ : ∃ q, plainB t = q := ⟨_, rfl⟩
  have HQ := Lib.hid (show ((chars t).find? unplain).isNone = q from hq)
  rw [hq]
  clear hq hs hT
  cases q with
  | false =>
    go_enter Tryz.func96, Tryz.ntmps96
    go_wp2_with fail
    refine HP.out.mono ?_
    rintro e w1 ⟨he, hb⟩
    rw [HQ.out] at he
    subst he
    have HB := Lib.hid hb
    clear hb
    go_wp2_with fail
    go_ret
    exact ⟨rfl, HB.out⟩
  | true =>
    by_cases h0 : t.size = 0
    · rw [decide_eq_true h0]
      have n1 : t.toList = [] := by rw [ByteArray.toList_eq]; exact List.eq_nil_of_length_eq_zero (by rw [list_len]; exact h0)
      clear h0
      go_enter Tryz.func96, Tryz.ntmps96
      go_wp2_with fail
      refine HP.out.mono ?_
      rintro e w1 ⟨he, hb⟩
      rw [HQ.out] at he
      subst he
      have HB := Lib.hid hb
      clear hb
      go_wp2_with fail
      go_ret
      exact ⟨rfl, HB.out⟩
    · rw [decide_eq_false h0]
      have n1 := notEmpty (s := t) (by omega)
      clear h0
      go_enter Tryz.func96, Tryz.ntmps96
      go_wp2_with fail
      refine HP.out.mono ?_
      rintro e w1 ⟨he, hb⟩
      rw [HQ.out] at he
      subst he
      have HB := Lib.hid hb
      clear hb
      go_wp2_with fail
      go_ret
      exact ⟨rfl, HB.out⟩
end Go.Proofs.YtalomeialegmiaaGreatDoor.Ir
end
section
namespace Go.Proofs.YtalomeialegmiaaGreatDoor.Ir
open Go.RowKit Go.Maps Go.Proofs.YtalomeialegmiaaGreatDoor
set_option linter.unusedVariables false
theorem isEmp {s : ByteArray} (h : s.size = 0) : s.toList = [] := by rw [ByteArray.toList_eq]; exact List.eq_nil_of_length_eq_zero (by rw [list_len]; exact h)
def FitsC (st tp : Int) (k n : Int) (t : ByteArray) (ws : List Int) (wv : Value) (w : World) (b : Bool) : Prop := Calls Tryz.prog 53 #[.agg #[.int .i64 k, .int .i64 n, .string t, wv], .int .i64 st, .int .i64 tp] w (SaysL (.bool b) w)

set_option maxRecDepth 100000 in
set_option maxHeartbeats 4000000 in
theorem fit_n2 (P : Nat → Prop) (st tp n : Int) (t : ByteArray) (ws : List Int) (wv : Value) (w : World) (hw : RdZ P w wv ws) : FitsC st tp 2 n t ws wv w (decide (0 ≤ n ∧ n < st) && decide (t.size = 0) && decide (ws.length = 0)) := by
  obtain ⟨pw, cw, rfl, hcw, hcm⟩ := hw.form
  have HW := Lib.hid hw
  obtain ⟨z, hz⟩ : ∃ z, ws.length = z := ⟨_, rfl⟩
  have HZ := Lib.hid hz
  rw [hz] at hcw HW ⊢
  have z62 : z ≤ 9223372036854775807 := by unfold maxLen at hcm; omega
  have HB := Lib.hid (fun o2 => ((Below.refl w.heap.size w).alloc (Nat.le_refl _) (.cells #[.int .i64 2, .int .i64 n, .string t, .slice pw z cw] 65)).alloc (by simp) o2)
  have hx := heap_alloc_new w (.cells #[.int .i64 2, .int .i64 n, .string t, .slice pw z cw] 65)
  clear hz hw hcm
  have HQ := Lib.hid (fun W => within_pro n (0) st W)
  obtain ⟨q, hq⟩ : ∃ q, decide (0 ≤ n ∧ n < st) = q := ⟨_, rfl⟩
  rw [hq] at HQ ⊢
  clear hq
  unfold FitsC
  cases q with
  | false =>
    rw [show (false && decide (t.size = 0) && decide (z = 0)) = false from rfl]
    go_enter Tryz.func53, Tryz.ntmps53
    go_wp2_with fail
    go_region
    go_wp2_with fail
    refine HQ.out _ |>.mono ?_
    rintro e w1 ⟨rfl, rfl⟩
    go_wp2_with fail
    go_ret
    exact ⟨rfl, (HB.out _).drew⟩
  | true =>
    rw [show (true && decide (t.size = 0) && decide (z = 0)) = (decide (t.size = 0) && decide (z = 0)) from rfl]
    by_cases ht : t.size = 0
    · have n1 := isEmp ht
      rw [decide_eq_true ht]
      clear ht
      by_cases h0 : z = 0
      · have h1 : ((z : Int) == 0) = true := by simpa using h0
        have h2 : decide (z = 0) = true := decide_eq_true h0
        rw [h2]
        clear h0 h2
        go_enter Tryz.func53, Tryz.ntmps53
        go_wp2_with fail
        go_region
        go_wp2_with fail
        refine HQ.out _ |>.mono ?_
        rintro e w1 ⟨rfl, rfl⟩
        go_wp2_with fail
        go_ret
        exact ⟨rfl, (HB.out _).drew⟩
      · have h1 : ((z : Int) == 0) = false := by simpa using h0
        have h2 : decide (z = 0) = false := decide_eq_false h0
        rw [h2]
        go_enter Tryz.func53, Tryz.ntmps53
        go_wp2_with fail
        go_region
        go_wp2_with fail
        refine HQ.out _ |>.mono ?_
        rintro e w1 ⟨rfl, rfl⟩
        go_wp2_with fail
        go_ret
        exact ⟨rfl, (HB.out _).drew⟩
    · have n1 := notEmpty (s := t) (by omega)
      rw [decide_eq_false ht]
      clear ht
      rw [show (false && decide (z = 0)) = false from rfl]
      go_enter Tryz.func53, Tryz.ntmps53
      go_wp2_with fail
      go_region
      go_wp2_with fail
      refine HQ.out _ |>.mono ?_
      rintro e w1 ⟨rfl, rfl⟩
      go_wp2_with fail
      go_ret
      exact ⟨rfl, (HB.out _).drew⟩

set_option maxRecDepth 100000 in
set_option maxHeartbeats 4000000 in
theorem fit_n3 (P : Nat → Prop) (st tp n : Int) (t : ByteArray) (ws : List Int) (wv : Value) (w : World) (hw : RdZ P w wv ws) : FitsC st tp 3 n t ws wv w (decide (0 ≤ n ∧ n < tp) && decide (t.size = 0) && decide (ws.length = 0)) := by
  obtain ⟨pw, cw, rfl, hcw, hcm⟩ := hw.form
  have HW := Lib.hid hw
  obtain ⟨z, hz⟩ : ∃ z, ws.length = z := ⟨_, rfl⟩
  have HZ := Lib.hid hz
  rw [hz] at hcw HW ⊢
  have z62 : z ≤ 9223372036854775807 := by unfold maxLen at hcm; omega
  have HB := Lib.hid (fun o2 => ((Below.refl w.heap.size w).alloc (Nat.le_refl _) (.cells #[.int .i64 3, .int .i64 n, .string t, .slice pw z cw] 65)).alloc (by simp) o2)
  have hx := heap_alloc_new w (.cells #[.int .i64 3, .int .i64 n, .string t, .slice pw z cw] 65)
  clear hz hw hcm
  have HQ := Lib.hid (fun W => within_pro n (0) tp W)
  obtain ⟨q, hq⟩ : ∃ q, decide (0 ≤ n ∧ n < tp) = q := ⟨_, rfl⟩
  rw [hq] at HQ ⊢
  clear hq
  unfold FitsC
  cases q with
  | false =>
    rw [show (false && decide (t.size = 0) && decide (z = 0)) = false from rfl]
    go_enter Tryz.func53, Tryz.ntmps53
    go_wp2_with fail
    go_region
    go_wp2_with fail
    refine HQ.out _ |>.mono ?_
    rintro e w1 ⟨rfl, rfl⟩
    go_wp2_with fail
    go_ret
    exact ⟨rfl, (HB.out _).drew⟩
  | true =>
    rw [show (true && decide (t.size = 0) && decide (z = 0)) = (decide (t.size = 0) && decide (z = 0)) from rfl]
    by_cases ht : t.size = 0
    · have n1 := isEmp ht
      rw [decide_eq_true ht]
      clear ht
      by_cases h0 : z = 0
      · have h1 : ((z : Int) == 0) = true := by simpa using h0
        have h2 : decide (z = 0) = true := decide_eq_true h0
        rw [h2]
        clear h0 h2
        go_enter Tryz.func53, Tryz.ntmps53
        go_wp2_with fail
        go_region
        go_wp2_with fail
        refine HQ.out _ |>.mono ?_
        rintro e w1 ⟨rfl, rfl⟩
        go_wp2_with fail
        go_ret
        exact ⟨rfl, (HB.out _).drew⟩
      · have h1 : ((z : Int) == 0) = false := by simpa using h0
        have h2 : decide (z = 0) = false := decide_eq_false h0
        rw [h2]
        go_enter Tryz.func53, Tryz.ntmps53
        go_wp2_with fail
        go_region
        go_wp2_with fail
        refine HQ.out _ |>.mono ?_
        rintro e w1 ⟨rfl, rfl⟩
        go_wp2_with fail
        go_ret
        exact ⟨rfl, (HB.out _).drew⟩
    · have n1 := notEmpty (s := t) (by omega)
      rw [decide_eq_false ht]
      clear ht
      rw [show (false && decide (z = 0)) = false from rfl]
      go_enter Tryz.func53, Tryz.ntmps53
      go_wp2_with fail
      go_region
      go_wp2_with fail
      refine HQ.out _ |>.mono ?_
      rintro e w1 ⟨rfl, rfl⟩
      go_wp2_with fail
      go_ret
      exact ⟨rfl, (HB.out _).drew⟩

set_option maxRecDepth 100000 in
set_option maxHeartbeats 4000000 in
theorem fit_n4 (P : Nat → Prop) (st tp n : Int) (t : ByteArray) (ws : List Int) (wv : Value) (w : World) (hw : RdZ P w wv ws) : FitsC st tp 4 n t ws wv w (decide (0 ≤ n ∧ n < tp) && decide (t.size = 0) && decide (ws.length = 0)) := by
  obtain ⟨pw, cw, rfl, hcw, hcm⟩ := hw.form
  have HW := Lib.hid hw
  obtain ⟨z, hz⟩ : ∃ z, ws.length = z := ⟨_, rfl⟩
  have HZ := Lib.hid hz
  rw [hz] at hcw HW ⊢
  have z62 : z ≤ 9223372036854775807 := by unfold maxLen at hcm; omega
  have HB := Lib.hid (fun o2 => ((Below.refl w.heap.size w).alloc (Nat.le_refl _) (.cells #[.int .i64 4, .int .i64 n, .string t, .slice pw z cw] 65)).alloc (by simp) o2)
  have hx := heap_alloc_new w (.cells #[.int .i64 4, .int .i64 n, .string t, .slice pw z cw] 65)
  clear hz hw hcm
  have HQ := Lib.hid (fun W => within_pro n (0) tp W)
  obtain ⟨q, hq⟩ : ∃ q, decide (0 ≤ n ∧ n < tp) = q := ⟨_, rfl⟩
  rw [hq] at HQ ⊢
  clear hq
  unfold FitsC
  cases q with
  | false =>
    rw [show (false && decide (t.size = 0) && decide (z = 0)) = false from rfl]
    go_enter Tryz.func53, Tryz.ntmps53
    go_wp2_with fail
    go_region
    go_wp2_with fail
    refine HQ.out _ |>.mono ?_
    rintro e w1 ⟨rfl, rfl⟩
    go_wp2_with fail
    go_ret
    exact ⟨rfl, (HB.out _).drew⟩
  | true =>
    rw [show (true && decide (t.size = 0) && decide (z = 0)) = (decide (t.size = 0) && decide (z = 0)) from rfl]
    by_cases ht : t.size = 0
    · have n1 := isEmp ht
      rw [decide_eq_true ht]
      clear ht
      by_cases h0 : z = 0
      · have h1 : ((z : Int) == 0) = true := by simpa using h0
        have h2 : decide (z = 0) = true := decide_eq_true h0
        rw [h2]
        clear h0 h2
        go_enter Tryz.func53, Tryz.ntmps53
        go_wp2_with fail
        go_region
        go_wp2_with fail
        refine HQ.out _ |>.mono ?_
        rintro e w1 ⟨rfl, rfl⟩
        go_wp2_with fail
        go_ret
        exact ⟨rfl, (HB.out _).drew⟩
      · have h1 : ((z : Int) == 0) = false := by simpa using h0
        have h2 : decide (z = 0) = false := decide_eq_false h0
        rw [h2]
        go_enter Tryz.func53, Tryz.ntmps53
        go_wp2_with fail
        go_region
        go_wp2_with fail
        refine HQ.out _ |>.mono ?_
        rintro e w1 ⟨rfl, rfl⟩
        go_wp2_with fail
        go_ret
        exact ⟨rfl, (HB.out _).drew⟩
    · have n1 := notEmpty (s := t) (by omega)
      rw [decide_eq_false ht]
      clear ht
      rw [show (false && decide (z = 0)) = false from rfl]
      go_enter Tryz.func53, Tryz.ntmps53
      go_wp2_with fail
      go_region
      go_wp2_with fail
      refine HQ.out _ |>.mono ?_
      rintro e w1 ⟨rfl, rfl⟩
      go_wp2_with fail
      go_ret
      exact ⟨rfl, (HB.out _).drew⟩

set_option maxRecDepth 100000 in
set_option maxHeartbeats 4000000 in
theorem fit_n8 (P : Nat → Prop) (st tp n : Int) (t : ByteArray) (ws : List Int) (wv : Value) (w : World) (hw : RdZ P w wv ws) : FitsC st tp 8 n t ws wv w (decide (-1 ≤ n ∧ n < st) && decide (t.size = 0) && decide (ws.length = 0)) := by
  obtain ⟨pw, cw, rfl, hcw, hcm⟩ := hw.form
  have HW := Lib.hid hw
  obtain ⟨z, hz⟩ : ∃ z, ws.length = z := ⟨_, rfl⟩
  have HZ := Lib.hid hz
  rw [hz] at hcw HW ⊢
  have z62 : z ≤ 9223372036854775807 := by unfold maxLen at hcm; omega
  have HB := Lib.hid (fun o2 => ((Below.refl w.heap.size w).alloc (Nat.le_refl _) (.cells #[.int .i64 8, .int .i64 n, .string t, .slice pw z cw] 65)).alloc (by simp) o2)
  have hx := heap_alloc_new w (.cells #[.int .i64 8, .int .i64 n, .string t, .slice pw z cw] 65)
  clear hz hw hcm
  have HQ := Lib.hid (fun W => within_pro n (-1) st W)
  obtain ⟨q, hq⟩ : ∃ q, decide (-1 ≤ n ∧ n < st) = q := ⟨_, rfl⟩
  rw [hq] at HQ ⊢
  clear hq
  unfold FitsC
  cases q with
  | false =>
    rw [show (false && decide (t.size = 0) && decide (z = 0)) = false from rfl]
    go_enter Tryz.func53, Tryz.ntmps53
    go_wp2_with fail
    go_region
    go_wp2_with fail
    refine HQ.out _ |>.mono ?_
    rintro e w1 ⟨rfl, rfl⟩
    go_wp2_with fail
    go_ret
    exact ⟨rfl, (HB.out _).drew⟩
  | true =>
    rw [show (true && decide (t.size = 0) && decide (z = 0)) = (decide (t.size = 0) && decide (z = 0)) from rfl]
    by_cases ht : t.size = 0
    · have n1 := isEmp ht
      rw [decide_eq_true ht]
      clear ht
      by_cases h0 : z = 0
      · have h1 : ((z : Int) == 0) = true := by simpa using h0
        have h2 : decide (z = 0) = true := decide_eq_true h0
        rw [h2]
        clear h0 h2
        go_enter Tryz.func53, Tryz.ntmps53
        go_wp2_with fail
        go_region
        go_wp2_with fail
        refine HQ.out _ |>.mono ?_
        rintro e w1 ⟨rfl, rfl⟩
        go_wp2_with fail
        go_ret
        exact ⟨rfl, (HB.out _).drew⟩
      · have h1 : ((z : Int) == 0) = false := by simpa using h0
        have h2 : decide (z = 0) = false := decide_eq_false h0
        rw [h2]
        go_enter Tryz.func53, Tryz.ntmps53
        go_wp2_with fail
        go_region
        go_wp2_with fail
        refine HQ.out _ |>.mono ?_
        rintro e w1 ⟨rfl, rfl⟩
        go_wp2_with fail
        go_ret
        exact ⟨rfl, (HB.out _).drew⟩
    · have n1 := notEmpty (s := t) (by omega)
      rw [decide_eq_false ht]
      clear ht
      rw [show (false && decide (z = 0)) = false from rfl]
      go_enter Tryz.func53, Tryz.ntmps53
      go_wp2_with fail
      go_region
      go_wp2_with fail
      refine HQ.out _ |>.mono ?_
      rintro e w1 ⟨rfl, rfl⟩
      go_wp2_with fail
      go_ret
      exact ⟨rfl, (HB.out _).drew⟩

set_option maxRecDepth 100000 in
set_option maxHeartbeats 4000000 in
theorem fit_n10 (P : Nat → Prop) (st tp n : Int) (t : ByteArray) (ws : List Int) (wv : Value) (w : World) (hw : RdZ P w wv ws) : FitsC st tp 10 n t ws wv w (decide (0 ≤ n ∧ n < 2) && decide (t.size = 0) && decide (ws.length = 0)) := by
  obtain ⟨pw, cw, rfl, hcw, hcm⟩ := hw.form
  have HW := Lib.hid hw
  obtain ⟨z, hz⟩ : ∃ z, ws.length = z := ⟨_, rfl⟩
  have HZ := Lib.hid hz
  rw [hz] at hcw HW ⊢
  have z62 : z ≤ 9223372036854775807 := by unfold maxLen at hcm; omega
  have HB := Lib.hid (fun o2 => ((Below.refl w.heap.size w).alloc (Nat.le_refl _) (.cells #[.int .i64 10, .int .i64 n, .string t, .slice pw z cw] 65)).alloc (by simp) o2)
  have hx := heap_alloc_new w (.cells #[.int .i64 10, .int .i64 n, .string t, .slice pw z cw] 65)
  clear hz hw hcm
  have HQ := Lib.hid (fun W => within_pro n (0) 2 W)
  obtain ⟨q, hq⟩ : ∃ q, decide (0 ≤ n ∧ n < 2) = q := ⟨_, rfl⟩
  rw [hq] at HQ ⊢
  clear hq
  unfold FitsC
  cases q with
  | false =>
    rw [show (false && decide (t.size = 0) && decide (z = 0)) = false from rfl]
    go_enter Tryz.func53, Tryz.ntmps53
    go_wp2_with fail
    go_region
    go_wp2_with fail
    refine HQ.out _ |>.mono ?_
    rintro e w1 ⟨rfl, rfl⟩
    go_wp2_with fail
    go_ret
    exact ⟨rfl, (HB.out _).drew⟩
  | true =>
    rw [show (true && decide (t.size = 0) && decide (z = 0)) = (decide (t.size = 0) && decide (z = 0)) from rfl]
    by_cases ht : t.size = 0
    · have n1 := isEmp ht
      rw [decide_eq_true ht]
      clear ht
      by_cases h0 : z = 0
      · have h1 : ((z : Int) == 0) = true := by simpa using h0
        have h2 : decide (z = 0) = true := decide_eq_true h0
        rw [h2]
        clear h0 h2
        go_enter Tryz.func53, Tryz.ntmps53
        go_wp2_with fail
        go_region
        go_wp2_with fail
        refine HQ.out _ |>.mono ?_
        rintro e w1 ⟨rfl, rfl⟩
        go_wp2_with fail
        go_ret
        exact ⟨rfl, (HB.out _).drew⟩
      · have h1 : ((z : Int) == 0) = false := by simpa using h0
        have h2 : decide (z = 0) = false := decide_eq_false h0
        rw [h2]
        go_enter Tryz.func53, Tryz.ntmps53
        go_wp2_with fail
        go_region
        go_wp2_with fail
        refine HQ.out _ |>.mono ?_
        rintro e w1 ⟨rfl, rfl⟩
        go_wp2_with fail
        go_ret
        exact ⟨rfl, (HB.out _).drew⟩
    · have n1 := notEmpty (s := t) (by omega)
      rw [decide_eq_false ht]
      clear ht
      rw [show (false && decide (z = 0)) = false from rfl]
      go_enter Tryz.func53, Tryz.ntmps53
      go_wp2_with fail
      go_region
      go_wp2_with fail
      refine HQ.out _ |>.mono ?_
      rintro e w1 ⟨rfl, rfl⟩
      go_wp2_with fail
      go_ret
      exact ⟨rfl, (HB.out _).drew⟩

set_option maxRecDepth 100000 in
set_option maxHeartbeats 4000000 in
theorem fit_other (P : Nat → Prop) (st tp k n : Int) (t : ByteArray) (ws : List Int) (wv : Value) (w : World) (hk : k ≠ 1 ∧ k ≠ 2 ∧ k ≠ 3 ∧ k ≠ 4 ∧ k ≠ 8 ∧ k ≠ 10 ∧ k ≠ 12) (hw : RdZ P w wv ws) : FitsC st tp k n t ws wv w (decide (n = 0) && decide (t.size = 0) && decide (ws.length = 0)) := by
  obtain ⟨pw, cw, rfl, hcw, hcm⟩ := hw.form
  have HW := Lib.hid hw
  obtain ⟨z, hz⟩ : ∃ z, ws.length = z := ⟨_, rfl⟩
  have HZ := Lib.hid hz
  rw [hz] at hcw HW ⊢
  have z62 : z ≤ 9223372036854775807 := by unfold maxLen at hcm; omega
  have HB := Lib.hid (fun o2 => ((Below.refl w.heap.size w).alloc (Nat.le_refl _) (.cells #[.int .i64 k, .int .i64 n, .string t, .slice pw z cw] 65)).alloc (by simp) o2)
  have hx := heap_alloc_new w (.cells #[.int .i64 k, .int .i64 n, .string t, .slice pw z cw] 65)
  have k1 : (k == 1) = false := by simp; omega
  have k2 : (k == 2) = false := by simp; omega
  have k3 : (k == 3) = false := by simp; omega
  have k4 : (k == 4) = false := by simp; omega
  have k8 : (k == 8) = false := by simp; omega
  have k10 : (k == 10) = false := by simp; omega
  have k12 : (k == 12) = false := by simp; omega
  clear hz hw hcm
  unfold FitsC
  by_cases hn : n = 0
  · subst hn
    rw [show (decide ((0 : Int) = 0) && decide (t.size = 0) && decide (z = 0)) = (decide (t.size = 0) && decide (z = 0)) from by simp]
    by_cases ht : t.size = 0
    · have n1 := isEmp ht
      rw [decide_eq_true ht]
      clear ht
      by_cases h0 : z = 0
      · have h1 : ((z : Int) == 0) = true := by simpa using h0
        have h2 : decide (z = 0) = true := decide_eq_true h0
        rw [h2]
        clear h0 h2
        go_enter Tryz.func53, Tryz.ntmps53
        go_wp2_with fail
        go_region
        go_wp2_with fail
        go_ret
        exact ⟨rfl, (HB.out _).drew⟩
      · have h1 : ((z : Int) == 0) = false := by simpa using h0
        have h2 : decide (z = 0) = false := decide_eq_false h0
        rw [h2]
        go_enter Tryz.func53, Tryz.ntmps53
        go_wp2_with fail
        go_region
        go_wp2_with fail
        go_ret
        exact ⟨rfl, (HB.out _).drew⟩
    · have n1 := notEmpty (s := t) (by omega)
      rw [decide_eq_false ht]
      clear ht
      rw [show (false && decide (z = 0)) = false from rfl]
      go_enter Tryz.func53, Tryz.ntmps53
      go_wp2_with fail
      go_region
      go_wp2_with fail
      go_ret
      exact ⟨rfl, (HB.out _).drew⟩
  · have h3 : (n == 0) = false := by simpa using hn
    rw [decide_eq_false hn, show (false && decide (t.size = 0) && decide (z = 0)) = false from rfl]
    go_enter Tryz.func53, Tryz.ntmps53
    go_wp2_with fail
    go_region
    go_wp2_with fail
    go_ret
    exact ⟨rfl, (HB.out _).drew⟩

set_option maxRecDepth 100000 in
set_option maxHeartbeats 4000000 in
theorem fit_text (P : Nat → Prop) (st tp n : Int) (t : ByteArray) (ws : List Int) (wv : Value) (w : World) (hw : RdZ P w wv ws) (hs : t.size ≤ 16777216) (hT : Tabs w) : FitsC st tp 1 n t ws wv w (plainB t && !decide (t.size = 0) && decide (n = 0) && decide (ws.length = 0)) := by
  obtain ⟨pw, cw, rfl, hcw, hcm⟩ := hw.form
  have HW := Lib.hid hw
  obtain ⟨z, hz⟩ : ∃ z, ws.length = z := ⟨_, rfl⟩
  have HZ := Lib.hid hz
  rw [hz] at hcw HW ⊢
  have z62 : z ≤ 9223372036854775807 := by unfold maxLen at hcm; omega
  have HB := Lib.hid (fun o2 => ((Below.refl w.heap.size w).alloc (Nat.le_refl _) (.cells #[.int .i64 1, .int .i64 n, .string t, .slice pw z cw] 65)).alloc (by simp) o2)
  have hx := heap_alloc_new w (.cells #[.int .i64 1, .int .i64 n, .string t, .slice pw z cw] 65)
  clear hz hw hcm
  have hx1 := heap_alloc_new (w.alloc (.cells #[.int .i64 1, .int .i64 n, .string t, .slice pw z cw] 65)) (.cells #[.int .i64 1, .int .i64 n, .string t, .slice pw z cw] 65)
  rw [show (w.alloc (.cells #[.int .i64 1, .int .i64 n, .string t, .slice pw z cw] 65)).heap.size = w.heap.size + 1 by simp] at hx1
  have HT := Lib.hid hT
  have hq0 : Hid (∀ W, Below w.heap.size w W → Calls Tryz.prog 96 #[.string t] W (SaysL (.bool (plainB t && !decide (t.size = 0))) W)) := Lib.hid (fun W hb => isText_pro t W hs (HT.out.below hb (Nat.le_refl _)))
  have HQ := Lib.hid (hq0.out _ (HB.out (.cells #[.int .i64 1, .int .i64 n, .string t, .slice pw z cw] 65)).drew)
  obtain ⟨q, hq⟩ : ∃ q, (plainB t && !decide (t.size = 0)) = q := ⟨_, rfl⟩
  rw [hq] at HQ ⊢
  clear hq hT hq0 hs
  unfold FitsC
  cases q with
  | false =>
    rw [show (false && decide (n = 0) && decide (z = 0)) = false from rfl]
    go_enter Tryz.func53, Tryz.ntmps53
    go_wp2_with fail
    go_region
    go_wp2_with fail
    refine (HQ.out).mono ?_
    rintro e w1 ⟨rfl, hb⟩
    have hs2 : w.heap.size + 1 < ((w.alloc (.cells #[.int .i64 1, .int .i64 n, .string t, .slice pw z cw] 65)).alloc (.cells #[.int .i64 1, .int .i64 n, .string t, .slice pw z cw] 65)).drew.heap.size := by simp
    have y1 := hb.block (w.heap.size + 1) hs2
    have HB2 := Lib.hid ((HB.out (.cells #[.int .i64 1, .int .i64 n, .string t, .slice pw z cw] 65)).drew.trans (hb.mono (HB.out (.cells #[.int .i64 1, .int .i64 n, .string t, .slice pw z cw] 65)).drew.size))
    have y2 := y1.trans hx1
    clear y1 hs2 hb
    obtain ⟨e0, e1, e2, e3⟩ : w1.cell? ⟨w.heap.size + 1, 0, none⟩ = some (.int .i64 1) ∧ w1.cell? ⟨w.heap.size + 1, 1, none⟩ = some (.int .i64 n) ∧ w1.cell? ⟨w.heap.size + 1, 2, none⟩ = some (.string t) ∧ w1.cell? ⟨w.heap.size + 1, 3, none⟩ = some (.slice pw z cw) := by
      refine ⟨?_, ?_, ?_, ?_⟩ <;> rw [cell_of_row _ _ _ _ _ _ y2] <;> rfl
    have g2 : w1.frozen? ⟨w.heap.size + 1, 2, none⟩ = false := frozen_of_row w1 _ _ _ _ y2
    have g3 : w1.frozen? ⟨w.heap.size + 1, 3, none⟩ = false := frozen_of_row w1 _ _ _ _ y2
    have HF := Lib.hid (show w.heap.size ≤ w.heap.size + 1 by omega)
    clear y2
    go_wp2_with fail
    go_ret
    exact ⟨rfl, HB2.out.setCell (p := ⟨w.heap.size + 1, _, none⟩) HF.out _⟩
  | true =>
    rw [show (true && decide (n = 0) && decide (z = 0)) = (decide (n = 0) && decide (z = 0)) from rfl]
    by_cases hn : n = 0
    · have h3 : (n == 0) = true := by simpa using hn
      rw [decide_eq_true hn]
      clear hn
      by_cases h0 : z = 0
      · have h1 : ((z : Int) == 0) = true := by simpa using h0
        have h2 : decide (z = 0) = true := decide_eq_true h0
        rw [h2]
        clear h0 h2
        go_enter Tryz.func53, Tryz.ntmps53
        go_wp2_with fail
        go_region
        go_wp2_with fail
        refine (HQ.out).mono ?_
        rintro e w1 ⟨rfl, hb⟩
        have hs2 : w.heap.size + 1 < ((w.alloc (.cells #[.int .i64 1, .int .i64 n, .string t, .slice pw z cw] 65)).alloc (.cells #[.int .i64 1, .int .i64 n, .string t, .slice pw z cw] 65)).drew.heap.size := by simp
        have y1 := hb.block (w.heap.size + 1) hs2
        have HB2 := Lib.hid ((HB.out (.cells #[.int .i64 1, .int .i64 n, .string t, .slice pw z cw] 65)).drew.trans (hb.mono (HB.out (.cells #[.int .i64 1, .int .i64 n, .string t, .slice pw z cw] 65)).drew.size))
        have y2 := y1.trans hx1
        clear y1 hs2 hb
        obtain ⟨e0, e1, e2, e3⟩ : w1.cell? ⟨w.heap.size + 1, 0, none⟩ = some (.int .i64 1) ∧ w1.cell? ⟨w.heap.size + 1, 1, none⟩ = some (.int .i64 n) ∧ w1.cell? ⟨w.heap.size + 1, 2, none⟩ = some (.string t) ∧ w1.cell? ⟨w.heap.size + 1, 3, none⟩ = some (.slice pw z cw) := by
          refine ⟨?_, ?_, ?_, ?_⟩ <;> rw [cell_of_row _ _ _ _ _ _ y2] <;> rfl
        have g2 : w1.frozen? ⟨w.heap.size + 1, 2, none⟩ = false := frozen_of_row w1 _ _ _ _ y2
        have g3 : w1.frozen? ⟨w.heap.size + 1, 3, none⟩ = false := frozen_of_row w1 _ _ _ _ y2
        have HF := Lib.hid (show w.heap.size ≤ w.heap.size + 1 by omega)
        clear y2
        go_wp2_with fail
        go_ret
        exact ⟨rfl, HB2.out.setCell (p := ⟨w.heap.size + 1, _, none⟩) HF.out _⟩
      · have h1 : ((z : Int) == 0) = false := by simpa using h0
        have h2 : decide (z = 0) = false := decide_eq_false h0
        rw [h2]
        go_enter Tryz.func53, Tryz.ntmps53
        go_wp2_with fail
        go_region
        go_wp2_with fail
        refine (HQ.out).mono ?_
        rintro e w1 ⟨rfl, hb⟩
        have hs2 : w.heap.size + 1 < ((w.alloc (.cells #[.int .i64 1, .int .i64 n, .string t, .slice pw z cw] 65)).alloc (.cells #[.int .i64 1, .int .i64 n, .string t, .slice pw z cw] 65)).drew.heap.size := by simp
        have y1 := hb.block (w.heap.size + 1) hs2
        have HB2 := Lib.hid ((HB.out (.cells #[.int .i64 1, .int .i64 n, .string t, .slice pw z cw] 65)).drew.trans (hb.mono (HB.out (.cells #[.int .i64 1, .int .i64 n, .string t, .slice pw z cw] 65)).drew.size))
        have y2 := y1.trans hx1
        clear y1 hs2 hb
        obtain ⟨e0, e1, e2, e3⟩ : w1.cell? ⟨w.heap.size + 1, 0, none⟩ = some (.int .i64 1) ∧ w1.cell? ⟨w.heap.size + 1, 1, none⟩ = some (.int .i64 n) ∧ w1.cell? ⟨w.heap.size + 1, 2, none⟩ = some (.string t) ∧ w1.cell? ⟨w.heap.size + 1, 3, none⟩ = some (.slice pw z cw) := by
          refine ⟨?_, ?_, ?_, ?_⟩ <;> rw [cell_of_row _ _ _ _ _ _ y2] <;> rfl
        have g2 : w1.frozen? ⟨w.heap.size + 1, 2, none⟩ = false := frozen_of_row w1 _ _ _ _ y2
        have g3 : w1.frozen? ⟨w.heap.size + 1, 3, none⟩ = false := frozen_of_row w1 _ _ _ _ y2
        have HF := Lib.hid (show w.heap.size ≤ w.heap.size + 1 by omega)
        clear y2
        go_wp2_with fail
        go_ret
        exact ⟨rfl, HB2.out.setCell (p := ⟨w.heap.size + 1, _, none⟩) HF.out _⟩
    · have h3 : (n == 0) = false := by simpa using hn
      rw [decide_eq_false hn]
      clear hn
      rw [show (false && decide (z = 0)) = false from rfl]
      go_enter Tryz.func53, Tryz.ntmps53
      go_wp2_with fail
      go_region
      go_wp2_with fail
      refine (HQ.out).mono ?_
      rintro e w1 ⟨rfl, hb⟩
      have hs2 : w.heap.size + 1 < ((w.alloc (.cells #[.int .i64 1, .int .i64 n, .string t, .slice pw z cw] 65)).alloc (.cells #[.int .i64 1, .int .i64 n, .string t, .slice pw z cw] 65)).drew.heap.size := by simp
      have y1 := hb.block (w.heap.size + 1) hs2
      have HB2 := Lib.hid ((HB.out (.cells #[.int .i64 1, .int .i64 n, .string t, .slice pw z cw] 65)).drew.trans (hb.mono (HB.out (.cells #[.int .i64 1, .int .i64 n, .string t, .slice pw z cw] 65)).drew.size))
      have y2 := y1.trans hx1
      clear y1 hs2 hb
      obtain ⟨e0, e1, e2, e3⟩ : w1.cell? ⟨w.heap.size + 1, 0, none⟩ = some (.int .i64 1) ∧ w1.cell? ⟨w.heap.size + 1, 1, none⟩ = some (.int .i64 n) ∧ w1.cell? ⟨w.heap.size + 1, 2, none⟩ = some (.string t) ∧ w1.cell? ⟨w.heap.size + 1, 3, none⟩ = some (.slice pw z cw) := by
        refine ⟨?_, ?_, ?_, ?_⟩ <;> rw [cell_of_row _ _ _ _ _ _ y2] <;> rfl
      have g2 : w1.frozen? ⟨w.heap.size + 1, 2, none⟩ = false := frozen_of_row w1 _ _ _ _ y2
      have g3 : w1.frozen? ⟨w.heap.size + 1, 3, none⟩ = false := frozen_of_row w1 _ _ _ _ y2
      have HF := Lib.hid (show w.heap.size ≤ w.heap.size + 1 by omega)
      clear y2
      go_wp2_with fail
      go_ret
      exact ⟨rfl, HB2.out.setCell (p := ⟨w.heap.size + 1, _, none⟩) HF.out _⟩

set_option maxRecDepth 100000 in
set_option maxHeartbeats 4000000 in
theorem fit_table (P : Nat → Prop) (st tp n : Int) (t : ByteArray) (ws : List Int) (wv : Value) (w : World) (hw : RdZ P w wv ws) : FitsC st tp 12 n t ws wv w (widB ws && decide (n = 0) && decide (t.size = 0)) := by
  obtain ⟨pw, cw, rfl, hcw, hcm⟩ := hw.form
  have HW := Lib.hid hw
  obtain ⟨z, hz⟩ : ∃ z, ws.length = z := ⟨_, rfl⟩
  have HZ := Lib.hid hz
  rw [hz] at hcw HW ⊢
  have z62 : z ≤ 9223372036854775807 := by unfold maxLen at hcm; omega
  have HB := Lib.hid (fun o2 => ((Below.refl w.heap.size w).alloc (Nat.le_refl _) (.cells #[.int .i64 12, .int .i64 n, .string t, .slice pw z cw] 65)).alloc (by simp) o2)
  have hx := heap_alloc_new w (.cells #[.int .i64 12, .int .i64 n, .string t, .slice pw z cw] 65)
  clear hz hw hcm
  have hx1 := heap_alloc_new (w.alloc (.cells #[.int .i64 12, .int .i64 n, .string t, .slice pw z cw] 65)) (.cells #[.int .i64 12, .int .i64 n, .string t, .slice pw z cw] 65)
  rw [show (w.alloc (.cells #[.int .i64 12, .int .i64 n, .string t, .slice pw z cw] 65)).heap.size = w.heap.size + 1 by simp] at hx1
  have hqq := widths_pro ws (.slice pw z cw) _ (HW.out.below (HB.out (.cells #[.int .i64 12, .int .i64 n, .string t, .slice pw z cw] 65)).drew)
  have HQ := Lib.hid hqq
  obtain ⟨q, hq⟩ : ∃ q, widB ws = q := ⟨_, rfl⟩
  rw [hq] at HQ ⊢
  clear hq hqq
  unfold FitsC
  cases q with
  | false =>
    rw [show (false && decide (n = 0) && decide (t.size = 0)) = false from rfl]
    go_enter Tryz.func53, Tryz.ntmps53
    go_wp2_with fail
    go_region
    go_wp2_with fail
    refine (HQ.out).mono ?_
    rintro e w1 ⟨rfl, hb⟩
    have hs2 : w.heap.size + 1 < ((w.alloc (.cells #[.int .i64 12, .int .i64 n, .string t, .slice pw z cw] 65)).alloc (.cells #[.int .i64 12, .int .i64 n, .string t, .slice pw z cw] 65)).drew.heap.size := by simp
    have y1 := hb.block (w.heap.size + 1) hs2
    have HB2 := Lib.hid ((HB.out (.cells #[.int .i64 12, .int .i64 n, .string t, .slice pw z cw] 65)).drew.trans (hb.mono (HB.out (.cells #[.int .i64 12, .int .i64 n, .string t, .slice pw z cw] 65)).drew.size))
    have y2 := y1.trans hx1
    clear y1 hs2 hb
    obtain ⟨e0, e1, e2, e3⟩ : w1.cell? ⟨w.heap.size + 1, 0, none⟩ = some (.int .i64 12) ∧ w1.cell? ⟨w.heap.size + 1, 1, none⟩ = some (.int .i64 n) ∧ w1.cell? ⟨w.heap.size + 1, 2, none⟩ = some (.string t) ∧ w1.cell? ⟨w.heap.size + 1, 3, none⟩ = some (.slice pw z cw) := by
      refine ⟨?_, ?_, ?_, ?_⟩ <;> rw [cell_of_row _ _ _ _ _ _ y2] <;> rfl
    have g2 : w1.frozen? ⟨w.heap.size + 1, 2, none⟩ = false := frozen_of_row w1 _ _ _ _ y2
    have g3 : w1.frozen? ⟨w.heap.size + 1, 3, none⟩ = false := frozen_of_row w1 _ _ _ _ y2
    have HF := Lib.hid (show w.heap.size ≤ w.heap.size + 1 by omega)
    clear y2
    go_wp2_with fail
    go_ret
    exact ⟨rfl, HB2.out.setCell (p := ⟨w.heap.size + 1, _, none⟩) HF.out _⟩
  | true =>
    rw [show (true && decide (n = 0) && decide (t.size = 0)) = (decide (n = 0) && decide (t.size = 0)) from rfl]
    by_cases hn : n = 0
    · have h3 : (n == 0) = true := by simpa using hn
      rw [decide_eq_true hn]
      clear hn
      by_cases ht : t.size = 0
      · have n1 := isEmp ht
        rw [decide_eq_true ht]
        clear ht
        go_enter Tryz.func53, Tryz.ntmps53
        go_wp2_with fail
        go_region
        go_wp2_with fail
        refine (HQ.out).mono ?_
        rintro e w1 ⟨rfl, hb⟩
        have hs2 : w.heap.size + 1 < ((w.alloc (.cells #[.int .i64 12, .int .i64 n, .string t, .slice pw z cw] 65)).alloc (.cells #[.int .i64 12, .int .i64 n, .string t, .slice pw z cw] 65)).drew.heap.size := by simp
        have y1 := hb.block (w.heap.size + 1) hs2
        have HB2 := Lib.hid ((HB.out (.cells #[.int .i64 12, .int .i64 n, .string t, .slice pw z cw] 65)).drew.trans (hb.mono (HB.out (.cells #[.int .i64 12, .int .i64 n, .string t, .slice pw z cw] 65)).drew.size))
        have y2 := y1.trans hx1
        clear y1 hs2 hb
        obtain ⟨e0, e1, e2, e3⟩ : w1.cell? ⟨w.heap.size + 1, 0, none⟩ = some (.int .i64 12) ∧ w1.cell? ⟨w.heap.size + 1, 1, none⟩ = some (.int .i64 n) ∧ w1.cell? ⟨w.heap.size + 1, 2, none⟩ = some (.string t) ∧ w1.cell? ⟨w.heap.size + 1, 3, none⟩ = some (.slice pw z cw) := by
          refine ⟨?_, ?_, ?_, ?_⟩ <;> rw [cell_of_row _ _ _ _ _ _ y2] <;> rfl
        have g2 : w1.frozen? ⟨w.heap.size + 1, 2, none⟩ = false := frozen_of_row w1 _ _ _ _ y2
        have g3 : w1.frozen? ⟨w.heap.size + 1, 3, none⟩ = false := frozen_of_row w1 _ _ _ _ y2
        have HF := Lib.hid (show w.heap.size ≤ w.heap.size + 1 by omega)
        clear y2
        go_wp2_with fail
        go_ret
        exact ⟨rfl, HB2.out.setCell (p := ⟨w.heap.size + 1, _, none⟩) HF.out _⟩
      · have n1 := notEmpty (s := t) (by omega)
        rw [decide_eq_false ht]
        clear ht
        go_enter Tryz.func53, Tryz.ntmps53
        go_wp2_with fail
        go_region
        go_wp2_with fail
        refine (HQ.out).mono ?_
        rintro e w1 ⟨rfl, hb⟩
        have hs2 : w.heap.size + 1 < ((w.alloc (.cells #[.int .i64 12, .int .i64 n, .string t, .slice pw z cw] 65)).alloc (.cells #[.int .i64 12, .int .i64 n, .string t, .slice pw z cw] 65)).drew.heap.size := by simp
        have y1 := hb.block (w.heap.size + 1) hs2
        have HB2 := Lib.hid ((HB.out (.cells #[.int .i64 12, .int .i64 n, .string t, .slice pw z cw] 65)).drew.trans (hb.mono (HB.out (.cells #[.int .i64 12, .int .i64 n, .string t, .slice pw z cw] 65)).drew.size))
        have y2 := y1.trans hx1
        clear y1 hs2 hb
        obtain ⟨e0, e1, e2, e3⟩ : w1.cell? ⟨w.heap.size + 1, 0, none⟩ = some (.int .i64 12) ∧ w1.cell? ⟨w.heap.size + 1, 1, none⟩ = some (.int .i64 n) ∧ w1.cell? ⟨w.heap.size + 1, 2, none⟩ = some (.string t) ∧ w1.cell? ⟨w.heap.size + 1, 3, none⟩ = some (.slice pw z cw) := by
          refine ⟨?_, ?_, ?_, ?_⟩ <;> rw [cell_of_row _ _ _ _ _ _ y2] <;> rfl
        have g2 : w1.frozen? ⟨w.heap.size + 1, 2, none⟩ = false := frozen_of_row w1 _ _ _ _ y2
        have g3 : w1.frozen? ⟨w.heap.size + 1, 3, none⟩ = false := frozen_of_row w1 _ _ _ _ y2
        have HF := Lib.hid (show w.heap.size ≤ w.heap.size + 1 by omega)
        clear y2
        go_wp2_with fail
        go_ret
        exact ⟨rfl, HB2.out.setCell (p := ⟨w.heap.size + 1, _, none⟩) HF.out _⟩
    · have h3 : (n == 0) = false := by simpa using hn
      rw [decide_eq_false hn]
      clear hn
      rw [show (false && decide (t.size = 0)) = false from rfl]
      go_enter Tryz.func53, Tryz.ntmps53
      go_wp2_with fail
      go_region
      go_wp2_with fail
      refine (HQ.out).mono ?_
      rintro e w1 ⟨rfl, hb⟩
      have hs2 : w.heap.size + 1 < ((w.alloc (.cells #[.int .i64 12, .int .i64 n, .string t, .slice pw z cw] 65)).alloc (.cells #[.int .i64 12, .int .i64 n, .string t, .slice pw z cw] 65)).drew.heap.size := by simp
      have y1 := hb.block (w.heap.size + 1) hs2
      have HB2 := Lib.hid ((HB.out (.cells #[.int .i64 12, .int .i64 n, .string t, .slice pw z cw] 65)).drew.trans (hb.mono (HB.out (.cells #[.int .i64 12, .int .i64 n, .string t, .slice pw z cw] 65)).drew.size))
      have y2 := y1.trans hx1
      clear y1 hs2 hb
      obtain ⟨e0, e1, e2, e3⟩ : w1.cell? ⟨w.heap.size + 1, 0, none⟩ = some (.int .i64 12) ∧ w1.cell? ⟨w.heap.size + 1, 1, none⟩ = some (.int .i64 n) ∧ w1.cell? ⟨w.heap.size + 1, 2, none⟩ = some (.string t) ∧ w1.cell? ⟨w.heap.size + 1, 3, none⟩ = some (.slice pw z cw) := by
        refine ⟨?_, ?_, ?_, ?_⟩ <;> rw [cell_of_row _ _ _ _ _ _ y2] <;> rfl
      have g2 : w1.frozen? ⟨w.heap.size + 1, 2, none⟩ = false := frozen_of_row w1 _ _ _ _ y2
      have g3 : w1.frozen? ⟨w.heap.size + 1, 3, none⟩ = false := frozen_of_row w1 _ _ _ _ y2
      have HF := Lib.hid (show w.heap.size ≤ w.heap.size + 1 by omega)
      clear y2
      go_wp2_with fail
      go_ret
      exact ⟨rfl, HB2.out.setCell (p := ⟨w.heap.size + 1, _, none⟩) HF.out _⟩

theorem fits_pro {P : Nat → Prop} (x : Opr) (st tp : Int) (wv : Value) (w : World) (hw : RdZ P w wv x.w) (hs : x.t.size ≤ 16777216) (hT : Tabs w) : Calls Tryz.prog 53 #[.agg #[.int .i64 x.k, .int .i64 x.n, .string x.t, wv], .int .i64 st, .int .i64 tp] w (SaysL (.bool (fitB x st tp)) w) := by
  obtain ⟨k, n, t, ws⟩ := x
  dsimp only at hw hs ⊢
  unfold fitB
  dsimp only
  by_cases h1 : k = 1
  · subst h1; rw [if_pos rfl]; exact fit_text P st tp n t ws wv w hw hs hT
  by_cases h2 : k = 2
  · subst h2; rw [if_neg (by decide), if_pos rfl]; exact fit_n2 P st tp n t ws wv w hw
  by_cases h3 : k = 3
  · subst h3; rw [if_neg (by decide), if_neg (by decide), if_pos (by decide)]; exact fit_n3 P st tp n t ws wv w hw
  by_cases h4 : k = 4
  · subst h4; rw [if_neg (by decide), if_neg (by decide), if_pos (by decide)]; exact fit_n4 P st tp n t ws wv w hw
  by_cases h8 : k = 8
  · subst h8; rw [if_neg (by decide), if_neg (by decide), if_neg (by decide), if_pos rfl]; exact fit_n8 P st tp n t ws wv w hw
  by_cases h10 : k = 10
  · subst h10; rw [if_neg (by decide), if_neg (by decide), if_neg (by decide), if_neg (by decide), if_pos rfl]; exact fit_n10 P st tp n t ws wv w hw
  by_cases h12 : k = 12
  · subst h12; rw [if_neg (by decide), if_neg (by decide), if_neg (by decide), if_neg (by decide), if_neg (by decide), if_pos rfl]; exact fit_table P st tp n t ws wv w hw
  rw [if_neg h1, if_neg h2, if_neg (by rintro (h | h); exact h3 h; exact h4 h), if_neg h8, if_neg h10, if_neg h12]
  exact fit_other P st tp k n t ws wv w ⟨h1, h2, h3, h4, h8, h10, h12⟩ hw
end Go.Proofs.YtalomeialegmiaaGreatDoor.Ir
end
section
namespace Go.Proofs.YtalomeialegmiaaGreatDoor.Ir
open Go.RowKit Go.Maps Go.Proofs.YtalomeialegmiaaGreatDoor
set_option linter.unusedVariables false

def lvCells (o : Lv) : Obj := .cells #[.int .i64 (o.wide : Nat), .int .i64 (o.parts : Nat), .int .i64 (o.cells : Nat)] 123
theorem lvCells_below (o : Lv) (w : World) : Below w.heap.size w (w.alloc (lvCells o)) := (Below.refl w.heap.size w).alloc (Nat.le_refl _) _
set_option maxRecDepth 100000 in
set_option maxHeartbeats 1000000 in
theorem short_pro (o : Lv) (w : World) : Calls Tryz.prog 104 #[lvVal o] w (SaysL (.bool (shortB o)) w) := by
  have HT := Lib.hid (fun W => table_pro o W)
  have HB := Lib.hid (lvCells_below o w)
  have hx := heap_alloc_new w (lvCells o)
  have HX := Lib.hid hx
  have HV : Hid (shortB o = (tabB o && decide (0 < o.parts) && decide (o.cells < o.wide))) := Lib.hid rfl
  obtain ⟨wi, pa, ce⟩ := o
  dsimp only [lvVal, lvCells] at HT HB HX HV ⊢
  obtain ⟨tb, htb⟩ : ∃ tb, tabB ⟨wi, pa, ce⟩ = tb := ⟨_, rfl⟩
  rw [htb] at HT HV
  rw [HV.out]
  clear hx htb HV
  cases tb with
  | false =>
    go_enter Tryz.func104, Tryz.ntmps104
    go_wp2_with fail
    refine (HT.out _).mono ?_
    rintro e w2 ⟨rfl, hb⟩
    have HB2 := Lib.hid (HB.out.trans (hb.mono HB.out.size))
    clear hb
    go_wp2_with fail
    go_ret
    exact ⟨rfl, HB2.out⟩
  | true =>
    have fin : ∀ b c : Bool, decide (0 < pa) = b → decide (ce < wi) = c → Calls Tryz.prog 104 #[.agg #[.int .i64 (wi : Nat), .int .i64 (pa : Nat), .int .i64 (ce : Nat)]] w (SaysL (.bool (true && b && c)) w) := by
      intro b c hb hc
      cases b with
      | false =>
        have h1 : ¬ (0 : Int) < (pa : Nat) := by have := of_decide_eq_false hb; omega
        clear hb hc
        go_enter Tryz.func104, Tryz.ntmps104
        go_wp2_with fail
        refine (HT.out _).mono ?_
        rintro e w2 ⟨rfl, hb⟩
        have x2 := (hb.block w.heap.size (Array.getElem?_eq_some_iff.1 HX.out).1).trans HX.out
        have d1 : w2.cell? ⟨w.heap.size, 1, none⟩ = some (.int .i64 (pa : Nat)) := by rw [cell_of_row _ _ _ _ _ _ x2]; rfl
        have HB2 := Lib.hid (HB.out.trans (hb.mono HB.out.size))
        clear hb x2
        go_wp2_with fail
        go_ret
        exact ⟨rfl, HB2.out⟩
      | true =>
        have h1 : (0 : Int) < (pa : Nat) := by have := of_decide_eq_true hb; omega
        cases c with
        | false =>
          have h2 : ¬ (ce : Int) < (wi : Nat) := by have := of_decide_eq_false hc; omega
          clear hb
          go_enter Tryz.func104, Tryz.ntmps104
          go_wp2_with fail
          refine (HT.out _).mono ?_
          rintro e w2 ⟨rfl, hb⟩
          have x2 := (hb.block w.heap.size (Array.getElem?_eq_some_iff.1 HX.out).1).trans HX.out
          have d0 : w2.cell? ⟨w.heap.size, 0, none⟩ = some (.int .i64 (wi : Nat)) := by rw [cell_of_row _ _ _ _ _ _ x2]; rfl
          have d1 : w2.cell? ⟨w.heap.size, 1, none⟩ = some (.int .i64 (pa : Nat)) := by rw [cell_of_row _ _ _ _ _ _ x2]; rfl
          have d2 : w2.cell? ⟨w.heap.size, 2, none⟩ = some (.int .i64 (ce : Nat)) := by rw [cell_of_row _ _ _ _ _ _ x2]; rfl
          have HB2 := Lib.hid (HB.out.trans (hb.mono HB.out.size))
          clear hb x2
          go_wp2_with fail
          go_ret
          exact ⟨rfl, HB2.out⟩
        | true =>
          have h2 : (ce : Int) < (wi : Nat) := by have := of_decide_eq_true hc; omega
          clear hb hc
          go_enter Tryz.func104, Tryz.ntmps104
          go_wp2_with fail
          refine (HT.out _).mono ?_
          rintro e w2 ⟨rfl, hb⟩
          have x2 := (hb.block w.heap.size (Array.getElem?_eq_some_iff.1 HX.out).1).trans HX.out
          have d0 : w2.cell? ⟨w.heap.size, 0, none⟩ = some (.int .i64 (wi : Nat)) := by rw [cell_of_row _ _ _ _ _ _ x2]; rfl
          have d1 : w2.cell? ⟨w.heap.size, 1, none⟩ = some (.int .i64 (pa : Nat)) := by rw [cell_of_row _ _ _ _ _ _ x2]; rfl
          have d2 : w2.cell? ⟨w.heap.size, 2, none⟩ = some (.int .i64 (ce : Nat)) := by rw [cell_of_row _ _ _ _ _ _ x2]; rfl
          have HB2 := Lib.hid (HB.out.trans (hb.mono HB.out.size))
          clear hb x2
          go_wp2_with fail
          go_ret
          exact ⟨rfl, HB2.out⟩
    exact fin _ _ rfl rfl
set_option maxRecDepth 100000 in
set_option maxHeartbeats 1000000 in
theorem room_pro (o : Lv) (w : World) : Calls Tryz.prog 103 #[lvVal o] w (SaysL (.bool (roomB o)) w) := by
  have HT := Lib.hid (fun W => table_pro o W)
  have HS := Lib.hid (fun W => short_pro o W)
  have HB := Lib.hid (lvCells_below o w)
  have HX := Lib.hid (heap_alloc_new w (lvCells o))
  have HV : Hid (roomB o = (decide (0 < o.parts) && (shortB o || !tabB o))) := Lib.hid rfl
  obtain ⟨wi, pa, ce⟩ := o
  dsimp only [lvVal, lvCells] at HT HS HB HX HV ⊢
  obtain ⟨tb, htb⟩ : ∃ tb, tabB ⟨wi, pa, ce⟩ = tb := ⟨_, rfl⟩
  obtain ⟨sb, hsb⟩ : ∃ sb, shortB ⟨wi, pa, ce⟩ = sb := ⟨_, rfl⟩
  rw [htb] at HT HV
  rw [hsb] at HS HV
  rw [HV.out]
  clear htb hsb HV
  have fin : ∀ b : Bool, decide (0 < pa) = b → Calls Tryz.prog 103 #[.agg #[.int .i64 (wi : Nat), .int .i64 (pa : Nat), .int .i64 (ce : Nat)]] w (SaysL (.bool (b && (sb || !tb))) w) := by
    intro b hb
    cases b with
    | false =>
      have h1 : ¬ (0 : Int) < (pa : Nat) := by have := of_decide_eq_false hb; omega
      clear hb
      go_enter Tryz.func103, Tryz.ntmps103
      go_wp2_with fail
      go_ret
      exact ⟨rfl, HB.out⟩
    | true =>
      have h1 : (0 : Int) < (pa : Nat) := by have := of_decide_eq_true hb; omega
      clear hb
      cases sb with
      | true =>
        go_enter Tryz.func103, Tryz.ntmps103
        go_wp2_with fail
        refine (HS.out _).mono ?_
        rintro e w2 ⟨rfl, hb⟩
        have HB2 := Lib.hid (HB.out.trans (hb.mono HB.out.size))
        clear hb
        go_wp2_with fail
        go_ret
        exact ⟨rfl, HB2.out⟩
      | false =>
        cases tb with
        | false =>
          go_enter Tryz.func103, Tryz.ntmps103
          go_wp2_with fail
          refine (HS.out _).mono ?_
          rintro e w2 ⟨rfl, hb⟩
          have x2 := (hb.block w.heap.size (Array.getElem?_eq_some_iff.1 HX.out).1).trans HX.out
          have d0 : w2.cell? ⟨w.heap.size, 0, none⟩ = some (.int .i64 (wi : Nat)) := by rw [cell_of_row _ _ _ _ _ _ x2]; rfl
          have d1 : w2.cell? ⟨w.heap.size, 1, none⟩ = some (.int .i64 (pa : Nat)) := by rw [cell_of_row _ _ _ _ _ _ x2]; rfl
          have d2 : w2.cell? ⟨w.heap.size, 2, none⟩ = some (.int .i64 (ce : Nat)) := by rw [cell_of_row _ _ _ _ _ _ x2]; rfl
          have HB2 := Lib.hid (HB.out.trans (hb.mono HB.out.size))
          clear hb x2
          go_wp2_with fail
          refine (HT.out _).mono ?_
          rintro e w3 ⟨rfl, hb⟩
          have HB3 := Lib.hid (HB2.out.trans (hb.mono HB2.out.size))
          clear hb
          go_wp2_with fail
          go_ret
          exact ⟨rfl, HB3.out⟩
        | true =>
          go_enter Tryz.func103, Tryz.ntmps103
          go_wp2_with fail
          refine (HS.out _).mono ?_
          rintro e w2 ⟨rfl, hb⟩
          have x2 := (hb.block w.heap.size (Array.getElem?_eq_some_iff.1 HX.out).1).trans HX.out
          have d0 : w2.cell? ⟨w.heap.size, 0, none⟩ = some (.int .i64 (wi : Nat)) := by rw [cell_of_row _ _ _ _ _ _ x2]; rfl
          have d1 : w2.cell? ⟨w.heap.size, 1, none⟩ = some (.int .i64 (pa : Nat)) := by rw [cell_of_row _ _ _ _ _ _ x2]; rfl
          have d2 : w2.cell? ⟨w.heap.size, 2, none⟩ = some (.int .i64 (ce : Nat)) := by rw [cell_of_row _ _ _ _ _ _ x2]; rfl
          have HB2 := Lib.hid (HB.out.trans (hb.mono HB.out.size))
          clear hb x2
          go_wp2_with fail
          refine (HT.out _).mono ?_
          rintro e w3 ⟨rfl, hb⟩
          have HB3 := Lib.hid (HB2.out.trans (hb.mono HB2.out.size))
          clear hb
          go_wp2_with fail
          go_ret
          exact ⟨rfl, HB3.out⟩
  exact fin _ rfl
/-- The number of the first of the braces that is a link or a note, or -1. -/
def lkAt : List Int → Nat → Int
  | [], _ => -1
  | k :: l, i => if isLk k then (i : Int) else lkAt l (i + 1)
theorem lkAt_step {l : List Int} {i : Nat} (h : i < l.length) : lkAt (l.drop i) i = if isLk l[i] then (i : Int) else lkAt (l.drop (i + 1)) (i + 1) := by
  rw [List.drop_eq_getElem_cons h]
  rfl
theorem lkAt_any : ∀ (l : List Int) (i : Nat), decide (0 ≤ lkAt l i) = l.any isLk
  | [], i => rfl
  | k :: l, i => by
    unfold lkAt
    cases h : isLk k with
    | true => simp [h]
    | false => simp [h]; exact lkAt_any l (i + 1)
def linkF : Value := .func (.func 101) #[] #[]
set_option maxRecDepth 100000 in
set_option maxHeartbeats 1000000 in
theorem indexLinks_pro (M : Nat) (s : Wk) (w : World) (h : WkIs M w s) : Calls Tryz.prog 136 #[.slice (some ⟨M, 25, none⟩) s.br.length 16, linkF] w fun e w' => e = .returned (.int .i64 (lkAt s.br 0)) ∧ w = w' := by
  have HH := Lib.hid h
  have hb := h.bounds.2
  clear h
  unfold linkF
  go_enter Tryz.func136, Tryz.ntmps136
  go_wp2_with fail
  go_loop [8] (fun i => ∃ k : Nat, k ≤ s.br.length ∧ i = .int .i64 k ∧ Hid (lkAt (s.br.drop k) k = lkAt s.br 0)) (fun i => s.br.length - (intOf i).toNat)
  case atStart => exact ⟨0, Nat.zero_le _, rfl, Lib.hid rfl⟩
  case round =>
    obtain ⟨k, hk, rfl, HF⟩ := hrel
    by_cases hlt : k < s.br.length
    · have c := HH.out.brace hlt
      have hs := lkAt_step hlt
      obtain ⟨x, hx⟩ : ∃ x, s.br[k] = x := ⟨_, rfl⟩
      rw [hx] at c hs
      have HL := Lib.hid (isLink_pro x w)
      obtain ⟨b, hbx⟩ : ∃ b, isLk x = b := ⟨_, rfl⟩
      rw [hbx] at HL hs
      have k1 : (k : Int) < s.br.length := by omega
      have k2 : k < 16 := by omega
      clear hbx hx
      cases b with
      | true =>
        rw [if_pos rfl] at hs
        have HZ := Lib.hid (HF.out.symm.trans hs)
        clear hs
        go_wp2_with fail
        refine HL.out.mono ?_
        rintro e w1 ⟨rfl, rfl⟩
        go_wp2_with fail
        go_ret
        rw [HZ.out]
        exact ⟨rfl, rfl⟩
      | false =>
        rw [if_neg (by decide)] at hs
        have HZ := Lib.hid (hs.symm.trans HF.out)
        clear hs
        go_wp2_with fail
        refine HL.out.mono ?_
        rintro e w1 ⟨rfl, rfl⟩
        go_wp2_with fail
        go_round
        case rel => exact ⟨k + 1, by omega, by go_num, HZ.out⟩
        case measure => simp [intOf]; omega
    · have hz : lkAt s.br 0 = -1 := by rw [← HF.out, List.drop_eq_nil_of_le (by omega)]; rfl
      have HZ := Lib.hid hz
      have k1 : ¬ (k : Int) < s.br.length := by omega
      clear hz
      go_wp2_with fail
      go_ret
      rw [HZ.out]
      exact ⟨rfl, rfl⟩
set_option maxRecDepth 100000 in
theorem anyLink_pro (M : Nat) (s : Wk) (w : World) (h : WkIs M w s) : Calls Tryz.prog 100 #[.slice (some ⟨M, 25, none⟩) s.br.length 16, linkF] w fun e w' => e = .returned (.bool (s.br.any isLk)) ∧ w = w' := by
  have HI := Lib.hid (indexLinks_pro M s w h)
  rw [← lkAt_any s.br 0]
  obtain ⟨i, hi⟩ : ∃ i, lkAt s.br 0 = i := ⟨_, rfl⟩
  rw [hi] at HI ⊢
  obtain ⟨n, hn⟩ : ∃ n, s.br.length = n := ⟨_, rfl⟩
  rw [hn] at HI ⊢
  clear h hi hn
  unfold linkF at HI ⊢
  by_cases h0 : 0 ≤ i
  · rw [decide_eq_true h0]
    go_enter Tryz.func100, Tryz.ntmps100
    go_wp2_with fail
    refine HI.out.mono ?_
    rintro e w1 ⟨rfl, rfl⟩
    go_wp2_with fail
    go_ret
    exact ⟨rfl, rfl⟩
  · have h1 := decide_eq_false h0
    rw [h1]
    go_enter Tryz.func100, Tryz.ntmps100
    go_wp2_with fail
    refine HI.out.mono ?_
    rintro e w1 ⟨rfl, rfl⟩
    go_wp2_with fail
    go_ret
    exact ⟨rfl, rfl⟩
end Go.Proofs.YtalomeialegmiaaGreatDoor.Ir
end
section
namespace Go.Proofs.YtalomeialegmiaaGreatDoor.Ir
open Go.RowKit Go.Maps Go.Proofs.YtalomeialegmiaaGreatDoor
set_option linter.unusedVariables false
def MayV (s : Wk) (k : Int) (b : Bool) : Prop := mayS s k = b
theorem MayV.ret {s : Wk} {k : Int} {a b : Bool} (h : MayV s k a) (e : a = b) : Ending.returned (.bool b) = Ending.returned (.bool (mayS s k)) := by rw [← e, ← show mayS s k = a from h]
theorem WkIs.drewN {M : Nat} {w : World} {s : Wk} (h : WkIs M w s) (n : Nat) : WkIs M (w.drewN n) s := h.below ⟨rfl, rfl, rfl, Nat.le_refl _, fun _ _ => rfl⟩
theorem belowN {B : Nat} {a w : World} (h : Below B a w) (n : Nat) : Below B a (w.drewN n) := ⟨h.os, h.tape, h.output, h.size, h.block⟩
def mayCall (M : Nat) (k : Int) (s : Wk) (w : World) : Prop := Calls Tryz.prog 54 #[.pointer (some ⟨M, 0, none⟩), .int .i64 k] w (SaysL (.bool (mayS s k)) w)

end Go.Proofs.YtalomeialegmiaaGreatDoor.Ir
end
section
namespace Go.Proofs.YtalomeialegmiaaGreatDoor.Ir
open Go.RowKit Go.Maps Go.Proofs.YtalomeialegmiaaGreatDoor
set_option linter.unusedVariables false
set_option maxRecDepth 100000 in
set_option maxHeartbeats 2000000 in
theorem may_link3 (M : Nat) (s : Wk) (w : World) (h : WkIs M w s) : mayCall M 3 s w := by
  unfold mayCall
  obtain ⟨c0, c1, c2, c3⟩ := h.cells
  have hbd := h.bounds
  have hL := h.lt
  have HH := Lib.hid h
  have HI := Lib.hid (innermost_pro M s w h)
  have HT := Lib.hid (fun W => table_pro (topL s) W)
  have HS := Lib.hid (fun W => short_pro (topL s) W)
  have HR := Lib.hid (fun W => room_pro (topL s) W)
  obtain ⟨t, ht⟩ : ∃ t, topL s = t := ⟨_, rfl⟩
  rw [ht] at HI HT HS HR
  obtain ⟨tb, htb⟩ : ∃ tb, tabB t = tb := ⟨_, rfl⟩
  obtain ⟨sb, hsb⟩ : ∃ sb, shortB t = sb := ⟨_, rfl⟩
  obtain ⟨rb, hrb⟩ : ∃ rb, roomB t = rb := ⟨_, rfl⟩
  rw [htb] at HT
  rw [hsb] at HS
  rw [hrb] at HR
  have hV : ∀ b, mayS s 3 = b → MayV s 3 b := fun _ h => h
  unfold mayS at hV
  rw [ht] at hV
  simp only [htb, hsb, hrb] at hV
  obtain ⟨lb, hlb⟩ : ∃ lb, s.br.any isLk = lb := ⟨_, rfl⟩
  have HA := Lib.hid (fun W (hw : WkIs M W s) => anyLink_pro M s W hw)
  rw [hlb] at HA hV
  obtain ⟨n, hn⟩ : ∃ n, s.br.length = n := ⟨_, rfl⟩
  obtain ⟨m, hm⟩ : ∃ m, s.op.length = m := ⟨_, rfl⟩
  obtain ⟨pa, hpa⟩ : ∃ pa, s.para = pa := ⟨_, rfl⟩
  obtain ⟨ah, hah⟩ : ∃ ah, s.ah = ah := ⟨_, rfl⟩
  rw [hm] at c0 hbd hV
  rw [hn] at c1 hbd hV HA
  rw [hpa] at c2 hV
  rw [hah] at c3 hV
  unfold lvVal at HI HT HS HR
  unfold linkF at HA
  obtain ⟨b8, b16⟩ := hbd
  have EN := Lib.hid hn
  have EM := Lib.hid hm
  have EP := Lib.hid hpa
  have EA := Lib.hid hah
  clear h ht htb hsb hrb hlb hn hm hpa hah
  obtain ⟨q, hq⟩ : ∃ q, ((n : Int) == 16) = q := ⟨_, rfl⟩
  have hnn : decide (n ≠ 16) = !q := by rw [← hq]; by_cases e : n = 16 <;> simp [e] <;> omega
  rw [hnn] at hV
  have mixed : Tryz.prog.follows .mixedOrders = true := by kernel_rfl
  have hV' : MayV s 3 _ := hV (!lb && !q && pa) (by simp)
  clear hV hnn
  go_enter Tryz.func54, Tryz.ntmps54
  go_wp2_with fail
  refine HI.out.mono ?_
  rintro e w1 ⟨rfl, hb⟩
  have HB := Lib.hid hb
  have HB1 := Lib.hid (hb.alloc hb.size (lvCells t))
  have HX := Lib.hid (heap_alloc_new w1 (lvCells t))
  have HW := Lib.hid (HH.out.below hb)
  obtain ⟨d0, d1, d2, d3⟩ := HW.out.cells
  rw [EM.out] at d0
  rw [EN.out] at d1
  rw [EP.out] at d2
  rw [EA.out] at d3
  have hL1 := HW.out.lt
  have HC := Lib.hid (fun q => (HA.out _ ((HW.out.below (lvCells_below t w1)).drewN q)).mono (fun e w2 he => (⟨he.1, he.2.symm⟩ : e = .returned (.bool lb) ∧ w2 = _)))
  dsimp only [lvCells] at HC HB1
  clear hb
  have b3 : (n : Int) ≤ 16 := by omega
  go_wp2_with fail
  go_quiet ((go_at_call 100; with_reducible exact Calls.quiet_of_same (HC.out _)))
  have HB2 := Lib.hid (fun q => belowN HB1.out q)
  cases lb with
  | true =>
    go_wp2_with fail
    go_ret
    exact ⟨hV'.ret rfl, HB2.out _⟩
  | false =>
    cases q with
    | true =>
      go_wp2_with fail
      go_ret
      exact ⟨hV'.ret rfl, HB2.out _⟩
    | false =>
      cases pa with
      | true =>
        go_wp2_with fail
        go_ret
        exact ⟨hV'.ret rfl, HB2.out _⟩
      | false =>
        go_wp2_with fail
        go_ret
        exact ⟨hV'.ret rfl, HB2.out _⟩


set_option maxRecDepth 100000 in
set_option maxHeartbeats 2000000 in
theorem may_link4 (M : Nat) (s : Wk) (w : World) (h : WkIs M w s) : mayCall M 4 s w := by
  unfold mayCall
  obtain ⟨c0, c1, c2, c3⟩ := h.cells
  have hbd := h.bounds
  have hL := h.lt
  have HH := Lib.hid h
  have HI := Lib.hid (innermost_pro M s w h)
  have HT := Lib.hid (fun W => table_pro (topL s) W)
  have HS := Lib.hid (fun W => short_pro (topL s) W)
  have HR := Lib.hid (fun W => room_pro (topL s) W)
  obtain ⟨t, ht⟩ : ∃ t, topL s = t := ⟨_, rfl⟩
  rw [ht] at HI HT HS HR
  obtain ⟨tb, htb⟩ : ∃ tb, tabB t = tb := ⟨_, rfl⟩
  obtain ⟨sb, hsb⟩ : ∃ sb, shortB t = sb := ⟨_, rfl⟩
  obtain ⟨rb, hrb⟩ : ∃ rb, roomB t = rb := ⟨_, rfl⟩
  rw [htb] at HT
  rw [hsb] at HS
  rw [hrb] at HR
  have hV : ∀ b, mayS s 4 = b → MayV s 4 b := fun _ h => h
  unfold mayS at hV
  rw [ht] at hV
  simp only [htb, hsb, hrb] at hV
  obtain ⟨lb, hlb⟩ : ∃ lb, s.br.any isLk = lb := ⟨_, rfl⟩
  have HA := Lib.hid (fun W (hw : WkIs M W s) => anyLink_pro M s W hw)
  rw [hlb] at HA hV
  obtain ⟨n, hn⟩ : ∃ n, s.br.length = n := ⟨_, rfl⟩
  obtain ⟨m, hm⟩ : ∃ m, s.op.length = m := ⟨_, rfl⟩
  obtain ⟨pa, hpa⟩ : ∃ pa, s.para = pa := ⟨_, rfl⟩
  obtain ⟨ah, hah⟩ : ∃ ah, s.ah = ah := ⟨_, rfl⟩
  rw [hm] at c0 hbd hV
  rw [hn] at c1 hbd hV HA
  rw [hpa] at c2 hV
  rw [hah] at c3 hV
  unfold lvVal at HI HT HS HR
  unfold linkF at HA
  obtain ⟨b8, b16⟩ := hbd
  have EN := Lib.hid hn
  have EM := Lib.hid hm
  have EP := Lib.hid hpa
  have EA := Lib.hid hah
  clear h ht htb hsb hrb hlb hn hm hpa hah
  obtain ⟨q, hq⟩ : ∃ q, ((n : Int) == 16) = q := ⟨_, rfl⟩
  have hnn : decide (n ≠ 16) = !q := by rw [← hq]; by_cases e : n = 16 <;> simp [e] <;> omega
  rw [hnn] at hV
  have mixed : Tryz.prog.follows .mixedOrders = true := by kernel_rfl
  have hV' : MayV s 4 _ := hV (!lb && !q && pa) (by simp)
  clear hV hnn
  go_enter Tryz.func54, Tryz.ntmps54
  go_wp2_with fail
  refine HI.out.mono ?_
  rintro e w1 ⟨rfl, hb⟩
  have HB := Lib.hid hb
  have HB1 := Lib.hid (hb.alloc hb.size (lvCells t))
  have HX := Lib.hid (heap_alloc_new w1 (lvCells t))
  have HW := Lib.hid (HH.out.below hb)
  obtain ⟨d0, d1, d2, d3⟩ := HW.out.cells
  rw [EM.out] at d0
  rw [EN.out] at d1
  rw [EP.out] at d2
  rw [EA.out] at d3
  have hL1 := HW.out.lt
  have HC := Lib.hid (fun q => (HA.out _ ((HW.out.below (lvCells_below t w1)).drewN q)).mono (fun e w2 he => (⟨he.1, he.2.symm⟩ : e = .returned (.bool lb) ∧ w2 = _)))
  dsimp only [lvCells] at HC HB1
  clear hb
  have b3 : (n : Int) ≤ 16 := by omega
  go_wp2_with fail
  go_quiet ((go_at_call 100; with_reducible exact Calls.quiet_of_same (HC.out _)))
  have HB2 := Lib.hid (fun q => belowN HB1.out q)
  cases lb with
  | true =>
    go_wp2_with fail
    go_ret
    exact ⟨hV'.ret rfl, HB2.out _⟩
  | false =>
    cases q with
    | true =>
      go_wp2_with fail
      go_ret
      exact ⟨hV'.ret rfl, HB2.out _⟩
    | false =>
      cases pa with
      | true =>
        go_wp2_with fail
        go_ret
        exact ⟨hV'.ret rfl, HB2.out _⟩
      | false =>
        go_wp2_with fail
        go_ret
        exact ⟨hV'.ret rfl, HB2.out _⟩


set_option maxRecDepth 100000 in
set_option maxHeartbeats 2000000 in
theorem may_2 (M : Nat) (s : Wk) (w : World) (h : WkIs M w s) : mayCall M 2 s w := by
  unfold mayCall
  obtain ⟨c0, c1, c2, c3⟩ := h.cells
  have hbd := h.bounds
  have hL := h.lt
  have HH := Lib.hid h
  have HI := Lib.hid (innermost_pro M s w h)
  have HT := Lib.hid (fun W => table_pro (topL s) W)
  have HS := Lib.hid (fun W => short_pro (topL s) W)
  have HR := Lib.hid (fun W => room_pro (topL s) W)
  obtain ⟨t, ht⟩ : ∃ t, topL s = t := ⟨_, rfl⟩
  rw [ht] at HI HT HS HR
  obtain ⟨tb, htb⟩ : ∃ tb, tabB t = tb := ⟨_, rfl⟩
  obtain ⟨sb, hsb⟩ : ∃ sb, shortB t = sb := ⟨_, rfl⟩
  obtain ⟨rb, hrb⟩ : ∃ rb, roomB t = rb := ⟨_, rfl⟩
  rw [htb] at HT
  rw [hsb] at HS
  rw [hrb] at HR
  have hV : ∀ b, mayS s 2 = b → MayV s 2 b := fun _ h => h
  unfold mayS at hV
  rw [ht] at hV
  simp only [htb, hsb, hrb] at hV
  obtain ⟨lb, hlb⟩ : ∃ lb, s.br.any isLk = lb := ⟨_, rfl⟩
  have HA := Lib.hid (fun W (hw : WkIs M W s) => anyLink_pro M s W hw)
  rw [hlb] at HA hV
  obtain ⟨n, hn⟩ : ∃ n, s.br.length = n := ⟨_, rfl⟩
  obtain ⟨m, hm⟩ : ∃ m, s.op.length = m := ⟨_, rfl⟩
  obtain ⟨pa, hpa⟩ : ∃ pa, s.para = pa := ⟨_, rfl⟩
  obtain ⟨ah, hah⟩ : ∃ ah, s.ah = ah := ⟨_, rfl⟩
  rw [hm] at c0 hbd hV
  rw [hn] at c1 hbd hV HA
  rw [hpa] at c2 hV
  rw [hah] at c3 hV
  unfold lvVal at HI HT HS HR
  unfold linkF at HA
  obtain ⟨b8, b16⟩ := hbd
  have EN := Lib.hid hn
  have EM := Lib.hid hm
  have EP := Lib.hid hpa
  have EA := Lib.hid hah
  clear h ht htb hsb hrb hlb hn hm hpa hah
  obtain ⟨q, hq⟩ : ∃ q, ((n : Int) == 16) = q := ⟨_, rfl⟩
  have hnq : decide (n ≠ 16) = !q := by rw [← hq]; first | done | (rw [Bool.eq_iff_iff]; simp <;> omega)
  rw [hnq] at hV
  have hV' : MayV s 2 _ := hV (!q && pa) (by simp)
  clear hV hnq
  go_enter Tryz.func54, Tryz.ntmps54
  go_wp2_with fail
  refine HI.out.mono ?_
  rintro e w1 ⟨rfl, hb⟩
  have HB := Lib.hid hb
  have HB1 := Lib.hid (hb.alloc hb.size (lvCells t))
  have HX := Lib.hid (heap_alloc_new w1 (lvCells t))
  have HW := Lib.hid (HH.out.below hb)
  obtain ⟨d0, d1, d2, d3⟩ := HW.out.cells
  rw [EM.out] at d0
  rw [EN.out] at d1
  rw [EP.out] at d2
  rw [EA.out] at d3
  have hL1 := HW.out.lt
  have HW1 := Lib.hid (HW.out.below (lvCells_below t w1))
  dsimp only [lvCells] at HB1 HX HW1
  clear hb
  cases q with
  | false =>
    cases pa with
    | false =>
      go_wp2_with fail
      go_ret
      exact ⟨hV'.ret rfl, HB1.out⟩
    | true =>
      go_wp2_with fail
      go_ret
      exact ⟨hV'.ret rfl, HB1.out⟩
  | true =>
    go_wp2_with fail
    go_ret
    exact ⟨hV'.ret rfl, HB1.out⟩


set_option maxRecDepth 100000 in
set_option maxHeartbeats 2000000 in
theorem may_6 (M : Nat) (s : Wk) (w : World) (h : WkIs M w s) : mayCall M 6 s w := by
  unfold mayCall
  obtain ⟨c0, c1, c2, c3⟩ := h.cells
  have hbd := h.bounds
  have hL := h.lt
  have HH := Lib.hid h
  have HI := Lib.hid (innermost_pro M s w h)
  have HT := Lib.hid (fun W => table_pro (topL s) W)
  have HS := Lib.hid (fun W => short_pro (topL s) W)
  have HR := Lib.hid (fun W => room_pro (topL s) W)
  obtain ⟨t, ht⟩ : ∃ t, topL s = t := ⟨_, rfl⟩
  rw [ht] at HI HT HS HR
  obtain ⟨tb, htb⟩ : ∃ tb, tabB t = tb := ⟨_, rfl⟩
  obtain ⟨sb, hsb⟩ : ∃ sb, shortB t = sb := ⟨_, rfl⟩
  obtain ⟨rb, hrb⟩ : ∃ rb, roomB t = rb := ⟨_, rfl⟩
  rw [htb] at HT
  rw [hsb] at HS
  rw [hrb] at HR
  have hV : ∀ b, mayS s 6 = b → MayV s 6 b := fun _ h => h
  unfold mayS at hV
  rw [ht] at hV
  simp only [htb, hsb, hrb] at hV
  obtain ⟨lb, hlb⟩ : ∃ lb, s.br.any isLk = lb := ⟨_, rfl⟩
  have HA := Lib.hid (fun W (hw : WkIs M W s) => anyLink_pro M s W hw)
  rw [hlb] at HA hV
  obtain ⟨n, hn⟩ : ∃ n, s.br.length = n := ⟨_, rfl⟩
  obtain ⟨m, hm⟩ : ∃ m, s.op.length = m := ⟨_, rfl⟩
  obtain ⟨pa, hpa⟩ : ∃ pa, s.para = pa := ⟨_, rfl⟩
  obtain ⟨ah, hah⟩ : ∃ ah, s.ah = ah := ⟨_, rfl⟩
  rw [hm] at c0 hbd hV
  rw [hn] at c1 hbd hV HA
  rw [hpa] at c2 hV
  rw [hah] at c3 hV
  unfold lvVal at HI HT HS HR
  unfold linkF at HA
  obtain ⟨b8, b16⟩ := hbd
  have EN := Lib.hid hn
  have EM := Lib.hid hm
  have EP := Lib.hid hpa
  have EA := Lib.hid hah
  clear h ht htb hsb hrb hlb hn hm hpa hah
  have hV' : MayV s 6 _ := hV (pa) (by simp)
  clear hV
  go_enter Tryz.func54, Tryz.ntmps54
  go_wp2_with fail
  refine HI.out.mono ?_
  rintro e w1 ⟨rfl, hb⟩
  have HB := Lib.hid hb
  have HB1 := Lib.hid (hb.alloc hb.size (lvCells t))
  have HX := Lib.hid (heap_alloc_new w1 (lvCells t))
  have HW := Lib.hid (HH.out.below hb)
  obtain ⟨d0, d1, d2, d3⟩ := HW.out.cells
  rw [EM.out] at d0
  rw [EN.out] at d1
  rw [EP.out] at d2
  rw [EA.out] at d3
  have hL1 := HW.out.lt
  have HW1 := Lib.hid (HW.out.below (lvCells_below t w1))
  dsimp only [lvCells] at HB1 HX HW1
  clear hb
  cases pa with
  | false =>
    go_wp2_with fail
    go_ret
    exact ⟨hV'.ret rfl, HB1.out⟩
  | true =>
    go_wp2_with fail
    go_ret
    exact ⟨hV'.ret rfl, HB1.out⟩


set_option maxRecDepth 100000 in
set_option maxHeartbeats 2000000 in
theorem may_7 (M : Nat) (s : Wk) (w : World) (h : WkIs M w s) : mayCall M 7 s w := by
  unfold mayCall
  obtain ⟨c0, c1, c2, c3⟩ := h.cells
  have hbd := h.bounds
  have hL := h.lt
  have HH := Lib.hid h
  have HI := Lib.hid (innermost_pro M s w h)
  have HT := Lib.hid (fun W => table_pro (topL s) W)
  have HS := Lib.hid (fun W => short_pro (topL s) W)
  have HR := Lib.hid (fun W => room_pro (topL s) W)
  obtain ⟨t, ht⟩ : ∃ t, topL s = t := ⟨_, rfl⟩
  rw [ht] at HI HT HS HR
  obtain ⟨tb, htb⟩ : ∃ tb, tabB t = tb := ⟨_, rfl⟩
  obtain ⟨sb, hsb⟩ : ∃ sb, shortB t = sb := ⟨_, rfl⟩
  obtain ⟨rb, hrb⟩ : ∃ rb, roomB t = rb := ⟨_, rfl⟩
  rw [htb] at HT
  rw [hsb] at HS
  rw [hrb] at HR
  have hV : ∀ b, mayS s 7 = b → MayV s 7 b := fun _ h => h
  unfold mayS at hV
  rw [ht] at hV
  simp only [htb, hsb, hrb] at hV
  obtain ⟨lb, hlb⟩ : ∃ lb, s.br.any isLk = lb := ⟨_, rfl⟩
  have HA := Lib.hid (fun W (hw : WkIs M W s) => anyLink_pro M s W hw)
  rw [hlb] at HA hV
  obtain ⟨n, hn⟩ : ∃ n, s.br.length = n := ⟨_, rfl⟩
  obtain ⟨m, hm⟩ : ∃ m, s.op.length = m := ⟨_, rfl⟩
  obtain ⟨pa, hpa⟩ : ∃ pa, s.para = pa := ⟨_, rfl⟩
  obtain ⟨ah, hah⟩ : ∃ ah, s.ah = ah := ⟨_, rfl⟩
  rw [hm] at c0 hbd hV
  rw [hn] at c1 hbd hV HA
  rw [hpa] at c2 hV
  rw [hah] at c3 hV
  unfold lvVal at HI HT HS HR
  unfold linkF at HA
  obtain ⟨b8, b16⟩ := hbd
  have EN := Lib.hid hn
  have EM := Lib.hid hm
  have EP := Lib.hid hpa
  have EA := Lib.hid hah
  clear h ht htb hsb hrb hlb hn hm hpa hah
  have hV' : MayV s 7 _ := hV (pa) (by simp)
  clear hV
  go_enter Tryz.func54, Tryz.ntmps54
  go_wp2_with fail
  refine HI.out.mono ?_
  rintro e w1 ⟨rfl, hb⟩
  have HB := Lib.hid hb
  have HB1 := Lib.hid (hb.alloc hb.size (lvCells t))
  have HX := Lib.hid (heap_alloc_new w1 (lvCells t))
  have HW := Lib.hid (HH.out.below hb)
  obtain ⟨d0, d1, d2, d3⟩ := HW.out.cells
  rw [EM.out] at d0
  rw [EN.out] at d1
  rw [EP.out] at d2
  rw [EA.out] at d3
  have hL1 := HW.out.lt
  have HW1 := Lib.hid (HW.out.below (lvCells_below t w1))
  dsimp only [lvCells] at HB1 HX HW1
  clear hb
  cases pa with
  | false =>
    go_wp2_with fail
    go_ret
    exact ⟨hV'.ret rfl, HB1.out⟩
  | true =>
    go_wp2_with fail
    go_ret
    exact ⟨hV'.ret rfl, HB1.out⟩


set_option maxRecDepth 100000 in
set_option maxHeartbeats 2000000 in
theorem may_1 (M : Nat) (s : Wk) (w : World) (h : WkIs M w s) : mayCall M 1 s w := by
  unfold mayCall
  obtain ⟨c0, c1, c2, c3⟩ := h.cells
  have hbd := h.bounds
  have hL := h.lt
  have HH := Lib.hid h
  have HI := Lib.hid (innermost_pro M s w h)
  have HT := Lib.hid (fun W => table_pro (topL s) W)
  have HS := Lib.hid (fun W => short_pro (topL s) W)
  have HR := Lib.hid (fun W => room_pro (topL s) W)
  obtain ⟨t, ht⟩ : ∃ t, topL s = t := ⟨_, rfl⟩
  rw [ht] at HI HT HS HR
  obtain ⟨tb, htb⟩ : ∃ tb, tabB t = tb := ⟨_, rfl⟩
  obtain ⟨sb, hsb⟩ : ∃ sb, shortB t = sb := ⟨_, rfl⟩
  obtain ⟨rb, hrb⟩ : ∃ rb, roomB t = rb := ⟨_, rfl⟩
  rw [htb] at HT
  rw [hsb] at HS
  rw [hrb] at HR
  have hV : ∀ b, mayS s 1 = b → MayV s 1 b := fun _ h => h
  unfold mayS at hV
  rw [ht] at hV
  simp only [htb, hsb, hrb] at hV
  obtain ⟨lb, hlb⟩ : ∃ lb, s.br.any isLk = lb := ⟨_, rfl⟩
  have HA := Lib.hid (fun W (hw : WkIs M W s) => anyLink_pro M s W hw)
  rw [hlb] at HA hV
  obtain ⟨n, hn⟩ : ∃ n, s.br.length = n := ⟨_, rfl⟩
  obtain ⟨m, hm⟩ : ∃ m, s.op.length = m := ⟨_, rfl⟩
  obtain ⟨pa, hpa⟩ : ∃ pa, s.para = pa := ⟨_, rfl⟩
  obtain ⟨ah, hah⟩ : ∃ ah, s.ah = ah := ⟨_, rfl⟩
  rw [hm] at c0 hbd hV
  rw [hn] at c1 hbd hV HA
  rw [hpa] at c2 hV
  rw [hah] at c3 hV
  unfold lvVal at HI HT HS HR
  unfold linkF at HA
  obtain ⟨b8, b16⟩ := hbd
  have EN := Lib.hid hn
  have EM := Lib.hid hm
  have EP := Lib.hid hpa
  have EA := Lib.hid hah
  clear h ht htb hsb hrb hlb hn hm hpa hah
  obtain ⟨q, hq⟩ : ∃ q, (ah != 1) = q := ⟨_, rfl⟩
  have hnq : decide (ah ≠ 1) = q := by rw [← hq]; first | done | (rw [Bool.eq_iff_iff]; simp <;> omega)
  rw [hnq] at hV
  have hV' : MayV s 1 _ := hV (pa && q) (by simp)
  clear hV hnq
  go_enter Tryz.func54, Tryz.ntmps54
  go_wp2_with fail
  refine HI.out.mono ?_
  rintro e w1 ⟨rfl, hb⟩
  have HB := Lib.hid hb
  have HB1 := Lib.hid (hb.alloc hb.size (lvCells t))
  have HX := Lib.hid (heap_alloc_new w1 (lvCells t))
  have HW := Lib.hid (HH.out.below hb)
  obtain ⟨d0, d1, d2, d3⟩ := HW.out.cells
  rw [EM.out] at d0
  rw [EN.out] at d1
  rw [EP.out] at d2
  rw [EA.out] at d3
  have hL1 := HW.out.lt
  have HW1 := Lib.hid (HW.out.below (lvCells_below t w1))
  dsimp only [lvCells] at HB1 HX HW1
  clear hb
  cases pa with
  | false =>
    go_wp2_with fail
    go_ret
    exact ⟨hV'.ret rfl, HB1.out⟩
  | true =>
    cases q with
    | false =>
      go_wp2_with fail
      go_ret
      exact ⟨hV'.ret rfl, HB1.out⟩
    | true =>
      go_wp2_with fail
      go_ret
      exact ⟨hV'.ret rfl, HB1.out⟩

end Go.Proofs.YtalomeialegmiaaGreatDoor.Ir
end
section
namespace Go.Proofs.YtalomeialegmiaaGreatDoor.Ir
open Go.RowKit Go.Maps Go.Proofs.YtalomeialegmiaaGreatDoor
set_option linter.unusedVariables false
set_option maxRecDepth 100000 in
set_option maxHeartbeats 2000000 in
theorem may_5 (M : Nat) (s : Wk) (w : World) (h : WkIs M w s) : mayCall M 5 s w := by
  unfold mayCall
  obtain ⟨c0, c1, c2, c3⟩ := h.cells
  have hbd := h.bounds
  have hL := h.lt
  have HH := Lib.hid h
  have HI := Lib.hid (innermost_pro M s w h)
  have HT := Lib.hid (fun W => table_pro (topL s) W)
  have HS := Lib.hid (fun W => short_pro (topL s) W)
  have HR := Lib.hid (fun W => room_pro (topL s) W)
  obtain ⟨t, ht⟩ : ∃ t, topL s = t := ⟨_, rfl⟩
  rw [ht] at HI HT HS HR
  obtain ⟨tb, htb⟩ : ∃ tb, tabB t = tb := ⟨_, rfl⟩
  obtain ⟨sb, hsb⟩ : ∃ sb, shortB t = sb := ⟨_, rfl⟩
  obtain ⟨rb, hrb⟩ : ∃ rb, roomB t = rb := ⟨_, rfl⟩
  rw [htb] at HT
  rw [hsb] at HS
  rw [hrb] at HR
  have hV : ∀ b, mayS s 5 = b → MayV s 5 b := fun _ h => h
  unfold mayS at hV
  rw [ht] at hV
  simp only [htb, hsb, hrb] at hV
  obtain ⟨lb, hlb⟩ : ∃ lb, s.br.any isLk = lb := ⟨_, rfl⟩
  have HA := Lib.hid (fun W (hw : WkIs M W s) => anyLink_pro M s W hw)
  rw [hlb] at HA hV
  obtain ⟨n, hn⟩ : ∃ n, s.br.length = n := ⟨_, rfl⟩
  obtain ⟨m, hm⟩ : ∃ m, s.op.length = m := ⟨_, rfl⟩
  obtain ⟨pa, hpa⟩ : ∃ pa, s.para = pa := ⟨_, rfl⟩
  obtain ⟨ah, hah⟩ : ∃ ah, s.ah = ah := ⟨_, rfl⟩
  rw [hm] at c0 hbd hV
  rw [hn] at c1 hbd hV HA
  rw [hpa] at c2 hV
  rw [hah] at c3 hV
  unfold lvVal at HI HT HS HR
  unfold linkF at HA
  obtain ⟨b8, b16⟩ := hbd
  have EN := Lib.hid hn
  have EM := Lib.hid hm
  have EP := Lib.hid hpa
  have EA := Lib.hid hah
  clear h ht htb hsb hrb hlb hn hm hpa hah
  obtain ⟨q, hq⟩ : ∃ q, decide (0 < n) = q := ⟨_, rfl⟩
  have hnq : decide (0 < n) = q := by rw [← hq]; first | done | (rw [Bool.eq_iff_iff]; simp <;> omega)
  rw [hnq] at hV
  have hqz : decide ((0 : Int) < n) = q := by rw [← hq]; rw [Bool.eq_iff_iff]; simp
  have hV' : MayV s 5 _ := hV (q) (by simp)
  clear hV
  go_enter Tryz.func54, Tryz.ntmps54
  go_wp2_with fail
  refine HI.out.mono ?_
  rintro e w1 ⟨rfl, hb⟩
  have HB := Lib.hid hb
  have HB1 := Lib.hid (hb.alloc hb.size (lvCells t))
  have HX := Lib.hid (heap_alloc_new w1 (lvCells t))
  have HW := Lib.hid (HH.out.below hb)
  obtain ⟨d0, d1, d2, d3⟩ := HW.out.cells
  rw [EM.out] at d0
  rw [EN.out] at d1
  rw [EP.out] at d2
  rw [EA.out] at d3
  have hL1 := HW.out.lt
  have HW1 := Lib.hid (HW.out.below (lvCells_below t w1))
  dsimp only [lvCells] at HB1 HX HW1
  clear hb
  cases q with
  | false =>
    go_wp2_with fail
    go_ret
    exact ⟨hV'.ret rfl, HB1.out⟩
  | true =>
    go_wp2_with fail
    go_ret
    exact ⟨hV'.ret rfl, HB1.out⟩


set_option maxRecDepth 100000 in
set_option maxHeartbeats 2000000 in
theorem may_9 (M : Nat) (s : Wk) (w : World) (h : WkIs M w s) : mayCall M 9 s w := by
  unfold mayCall
  obtain ⟨c0, c1, c2, c3⟩ := h.cells
  have hbd := h.bounds
  have hL := h.lt
  have HH := Lib.hid h
  have HI := Lib.hid (innermost_pro M s w h)
  have HT := Lib.hid (fun W => table_pro (topL s) W)
  have HS := Lib.hid (fun W => short_pro (topL s) W)
  have HR := Lib.hid (fun W => room_pro (topL s) W)
  obtain ⟨t, ht⟩ : ∃ t, topL s = t := ⟨_, rfl⟩
  rw [ht] at HI HT HS HR
  obtain ⟨tb, htb⟩ : ∃ tb, tabB t = tb := ⟨_, rfl⟩
  obtain ⟨sb, hsb⟩ : ∃ sb, shortB t = sb := ⟨_, rfl⟩
  obtain ⟨rb, hrb⟩ : ∃ rb, roomB t = rb := ⟨_, rfl⟩
  rw [htb] at HT
  rw [hsb] at HS
  rw [hrb] at HR
  have hV : ∀ b, mayS s 9 = b → MayV s 9 b := fun _ h => h
  unfold mayS at hV
  rw [ht] at hV
  simp only [htb, hsb, hrb] at hV
  obtain ⟨lb, hlb⟩ : ∃ lb, s.br.any isLk = lb := ⟨_, rfl⟩
  have HA := Lib.hid (fun W (hw : WkIs M W s) => anyLink_pro M s W hw)
  rw [hlb] at HA hV
  obtain ⟨n, hn⟩ : ∃ n, s.br.length = n := ⟨_, rfl⟩
  obtain ⟨m, hm⟩ : ∃ m, s.op.length = m := ⟨_, rfl⟩
  obtain ⟨pa, hpa⟩ : ∃ pa, s.para = pa := ⟨_, rfl⟩
  obtain ⟨ah, hah⟩ : ∃ ah, s.ah = ah := ⟨_, rfl⟩
  rw [hm] at c0 hbd hV
  rw [hn] at c1 hbd hV HA
  rw [hpa] at c2 hV
  rw [hah] at c3 hV
  unfold lvVal at HI HT HS HR
  unfold linkF at HA
  obtain ⟨b8, b16⟩ := hbd
  have EN := Lib.hid hn
  have EM := Lib.hid hm
  have EP := Lib.hid hpa
  have EA := Lib.hid hah
  clear h ht htb hsb hrb hlb hn hm hpa hah
  obtain ⟨q, hq⟩ : ∃ q, ((n : Int) == 0) = q := ⟨_, rfl⟩
  have hnq : decide (n = 0) = q := by rw [← hq]; first | done | (rw [Bool.eq_iff_iff]; simp <;> omega)
  rw [hnq] at hV
  have hV' : MayV s 9 _ := hV (pa && q) (by simp)
  clear hV hnq
  go_enter Tryz.func54, Tryz.ntmps54
  go_wp2_with fail
  refine HI.out.mono ?_
  rintro e w1 ⟨rfl, hb⟩
  have HB := Lib.hid hb
  have HB1 := Lib.hid (hb.alloc hb.size (lvCells t))
  have HX := Lib.hid (heap_alloc_new w1 (lvCells t))
  have HW := Lib.hid (HH.out.below hb)
  obtain ⟨d0, d1, d2, d3⟩ := HW.out.cells
  rw [EM.out] at d0
  rw [EN.out] at d1
  rw [EP.out] at d2
  rw [EA.out] at d3
  have hL1 := HW.out.lt
  have HW1 := Lib.hid (HW.out.below (lvCells_below t w1))
  dsimp only [lvCells] at HB1 HX HW1
  clear hb
  cases pa with
  | false =>
    go_wp2_with fail
    go_ret
    exact ⟨hV'.ret rfl, HB1.out⟩
  | true =>
    cases q with
    | false =>
      go_wp2_with fail
      go_ret
      exact ⟨hV'.ret rfl, HB1.out⟩
    | true =>
      go_wp2_with fail
      go_ret
      exact ⟨hV'.ret rfl, HB1.out⟩


set_option maxRecDepth 100000 in
set_option maxHeartbeats 2000000 in
theorem may_8 (M : Nat) (s : Wk) (w : World) (h : WkIs M w s) : mayCall M 8 s w := by
  unfold mayCall
  obtain ⟨c0, c1, c2, c3⟩ := h.cells
  have hbd := h.bounds
  have hL := h.lt
  have HH := Lib.hid h
  have HI := Lib.hid (innermost_pro M s w h)
  have HT := Lib.hid (fun W => table_pro (topL s) W)
  have HS := Lib.hid (fun W => short_pro (topL s) W)
  have HR := Lib.hid (fun W => room_pro (topL s) W)
  obtain ⟨t, ht⟩ : ∃ t, topL s = t := ⟨_, rfl⟩
  rw [ht] at HI HT HS HR
  obtain ⟨tb, htb⟩ : ∃ tb, tabB t = tb := ⟨_, rfl⟩
  obtain ⟨sb, hsb⟩ : ∃ sb, shortB t = sb := ⟨_, rfl⟩
  obtain ⟨rb, hrb⟩ : ∃ rb, roomB t = rb := ⟨_, rfl⟩
  rw [htb] at HT
  rw [hsb] at HS
  rw [hrb] at HR
  have hV : ∀ b, mayS s 8 = b → MayV s 8 b := fun _ h => h
  unfold mayS at hV
  rw [ht] at hV
  simp only [htb, hsb, hrb] at hV
  obtain ⟨lb, hlb⟩ : ∃ lb, s.br.any isLk = lb := ⟨_, rfl⟩
  have HA := Lib.hid (fun W (hw : WkIs M W s) => anyLink_pro M s W hw)
  rw [hlb] at HA hV
  obtain ⟨n, hn⟩ : ∃ n, s.br.length = n := ⟨_, rfl⟩
  obtain ⟨m, hm⟩ : ∃ m, s.op.length = m := ⟨_, rfl⟩
  obtain ⟨pa, hpa⟩ : ∃ pa, s.para = pa := ⟨_, rfl⟩
  obtain ⟨ah, hah⟩ : ∃ ah, s.ah = ah := ⟨_, rfl⟩
  rw [hm] at c0 hbd hV
  rw [hn] at c1 hbd hV HA
  rw [hpa] at c2 hV
  rw [hah] at c3 hV
  unfold lvVal at HI HT HS HR
  unfold linkF at HA
  obtain ⟨b8, b16⟩ := hbd
  have EN := Lib.hid hn
  have EM := Lib.hid hm
  have EP := Lib.hid hpa
  have EA := Lib.hid hah
  clear h ht htb hsb hrb hlb hn hm hpa hah
  obtain ⟨r, hr⟩ : ∃ r, ((m : Int) == 0) = r := ⟨_, rfl⟩
  have hnr : decide (m = 0) = r := by rw [← hr]; first | done | (rw [Bool.eq_iff_iff]; simp <;> omega)
  rw [hnr] at hV
  have hV' : MayV s 8 _ := hV (!pa && (r || rb)) (by simp)
  clear hV hnr
  go_enter Tryz.func54, Tryz.ntmps54
  go_wp2_with fail
  refine HI.out.mono ?_
  rintro e w1 ⟨rfl, hb⟩
  have HB := Lib.hid hb
  have HB1 := Lib.hid (hb.alloc hb.size (lvCells t))
  have HX := Lib.hid (heap_alloc_new w1 (lvCells t))
  have HW := Lib.hid (HH.out.below hb)
  obtain ⟨d0, d1, d2, d3⟩ := HW.out.cells
  rw [EM.out] at d0
  rw [EN.out] at d1
  rw [EP.out] at d2
  rw [EA.out] at d3
  have hL1 := HW.out.lt
  have HW1 := Lib.hid (HW.out.below (lvCells_below t w1))
  dsimp only [lvCells] at HB1 HX HW1
  clear hb
  cases pa with
  | false =>
    cases r with
    | false =>
      cases rb with
      | false =>
        go_wp2_with fail
        refine (HR.out _).mono ?_
        rintro e w2 ⟨rfl, hc⟩
        have HC0 := Lib.hid (HB1.out.trans (hc.mono HB1.out.size))
        have HY0 := Lib.hid (HW1.out.below hc)
        have HZ0 := Lib.hid ((hc.block w1.heap.size (Array.getElem?_eq_some_iff.1 HX.out).1).trans HX.out)
        obtain ⟨a0, a1, a2, a3⟩ := HY0.out.cells
        rw [EM.out] at a0
        rw [EN.out] at a1
        rw [EP.out] at a2
        rw [EA.out] at a3
        have x0 : w2.cell? ⟨w1.heap.size, 0, none⟩ = some (.int .i64 (t.wide : Nat)) := by rw [cell_of_row _ _ _ _ _ _ HZ0.out]; rfl
        have x1 : w2.cell? ⟨w1.heap.size, 1, none⟩ = some (.int .i64 (t.parts : Nat)) := by rw [cell_of_row _ _ _ _ _ _ HZ0.out]; rfl
        have x2 : w2.cell? ⟨w1.heap.size, 2, none⟩ = some (.int .i64 (t.cells : Nat)) := by rw [cell_of_row _ _ _ _ _ _ HZ0.out]; rfl
        clear hc
        go_wp2_with fail
        go_ret
        exact ⟨hV'.ret rfl, HC0.out⟩
      | true =>
        go_wp2_with fail
        refine (HR.out _).mono ?_
        rintro e w2 ⟨rfl, hc⟩
        have HC0 := Lib.hid (HB1.out.trans (hc.mono HB1.out.size))
        have HY0 := Lib.hid (HW1.out.below hc)
        have HZ0 := Lib.hid ((hc.block w1.heap.size (Array.getElem?_eq_some_iff.1 HX.out).1).trans HX.out)
        obtain ⟨a0, a1, a2, a3⟩ := HY0.out.cells
        rw [EM.out] at a0
        rw [EN.out] at a1
        rw [EP.out] at a2
        rw [EA.out] at a3
        have x0 : w2.cell? ⟨w1.heap.size, 0, none⟩ = some (.int .i64 (t.wide : Nat)) := by rw [cell_of_row _ _ _ _ _ _ HZ0.out]; rfl
        have x1 : w2.cell? ⟨w1.heap.size, 1, none⟩ = some (.int .i64 (t.parts : Nat)) := by rw [cell_of_row _ _ _ _ _ _ HZ0.out]; rfl
        have x2 : w2.cell? ⟨w1.heap.size, 2, none⟩ = some (.int .i64 (t.cells : Nat)) := by rw [cell_of_row _ _ _ _ _ _ HZ0.out]; rfl
        clear hc
        go_wp2_with fail
        go_ret
        exact ⟨hV'.ret rfl, HC0.out⟩
    | true =>
      go_wp2_with fail
      go_ret
      exact ⟨hV'.ret rfl, HB1.out⟩
  | true =>
    go_wp2_with fail
    go_ret
    exact ⟨hV'.ret rfl, HB1.out⟩


set_option maxRecDepth 100000 in
set_option maxHeartbeats 2000000 in
theorem may_12 (M : Nat) (s : Wk) (w : World) (h : WkIs M w s) : mayCall M 12 s w := by
  unfold mayCall
  obtain ⟨c0, c1, c2, c3⟩ := h.cells
  have hbd := h.bounds
  have hL := h.lt
  have HH := Lib.hid h
  have HI := Lib.hid (innermost_pro M s w h)
  have HT := Lib.hid (fun W => table_pro (topL s) W)
  have HS := Lib.hid (fun W => short_pro (topL s) W)
  have HR := Lib.hid (fun W => room_pro (topL s) W)
  obtain ⟨t, ht⟩ : ∃ t, topL s = t := ⟨_, rfl⟩
  rw [ht] at HI HT HS HR
  obtain ⟨tb, htb⟩ : ∃ tb, tabB t = tb := ⟨_, rfl⟩
  obtain ⟨sb, hsb⟩ : ∃ sb, shortB t = sb := ⟨_, rfl⟩
  obtain ⟨rb, hrb⟩ : ∃ rb, roomB t = rb := ⟨_, rfl⟩
  rw [htb] at HT
  rw [hsb] at HS
  rw [hrb] at HR
  have hV : ∀ b, mayS s 12 = b → MayV s 12 b := fun _ h => h
  unfold mayS at hV
  rw [ht] at hV
  simp only [htb, hsb, hrb] at hV
  obtain ⟨lb, hlb⟩ : ∃ lb, s.br.any isLk = lb := ⟨_, rfl⟩
  have HA := Lib.hid (fun W (hw : WkIs M W s) => anyLink_pro M s W hw)
  rw [hlb] at HA hV
  obtain ⟨n, hn⟩ : ∃ n, s.br.length = n := ⟨_, rfl⟩
  obtain ⟨m, hm⟩ : ∃ m, s.op.length = m := ⟨_, rfl⟩
  obtain ⟨pa, hpa⟩ : ∃ pa, s.para = pa := ⟨_, rfl⟩
  obtain ⟨ah, hah⟩ : ∃ ah, s.ah = ah := ⟨_, rfl⟩
  rw [hm] at c0 hbd hV
  rw [hn] at c1 hbd hV HA
  rw [hpa] at c2 hV
  rw [hah] at c3 hV
  unfold lvVal at HI HT HS HR
  unfold linkF at HA
  obtain ⟨b8, b16⟩ := hbd
  have EN := Lib.hid hn
  have EM := Lib.hid hm
  have EP := Lib.hid hpa
  have EA := Lib.hid hah
  clear h ht htb hsb hrb hlb hn hm hpa hah
  obtain ⟨r, hr⟩ : ∃ r, ((m : Int) == 0) = r := ⟨_, rfl⟩
  have hnr : decide (m = 0) = r := by rw [← hr]; first | done | (rw [Bool.eq_iff_iff]; simp <;> omega)
  rw [hnr] at hV
  have hV' : MayV s 12 _ := hV (!pa && r) (by simp)
  clear hV hnr
  go_enter Tryz.func54, Tryz.ntmps54
  go_wp2_with fail
  refine HI.out.mono ?_
  rintro e w1 ⟨rfl, hb⟩
  have HB := Lib.hid hb
  have HB1 := Lib.hid (hb.alloc hb.size (lvCells t))
  have HX := Lib.hid (heap_alloc_new w1 (lvCells t))
  have HW := Lib.hid (HH.out.below hb)
  obtain ⟨d0, d1, d2, d3⟩ := HW.out.cells
  rw [EM.out] at d0
  rw [EN.out] at d1
  rw [EP.out] at d2
  rw [EA.out] at d3
  have hL1 := HW.out.lt
  have HW1 := Lib.hid (HW.out.below (lvCells_below t w1))
  dsimp only [lvCells] at HB1 HX HW1
  clear hb
  cases pa with
  | false =>
    cases r with
    | false =>
      go_wp2_with fail
      go_ret
      exact ⟨hV'.ret rfl, HB1.out⟩
    | true =>
      go_wp2_with fail
      go_ret
      exact ⟨hV'.ret rfl, HB1.out⟩
  | true =>
    go_wp2_with fail
    go_ret
    exact ⟨hV'.ret rfl, HB1.out⟩

end Go.Proofs.YtalomeialegmiaaGreatDoor.Ir
end
