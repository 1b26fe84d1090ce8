/- The texts that the laws of layout stand on, part 1. -/
import Derived.WalkKit
section
namespace Go.Proofs.YtjohhahfpgfjdaaGreatDoor

structure Opr where
  k : Int
  n : Int
  t : ByteArray
  w : List Int
/-- A list or a table that is open: how many paragraphs a row has (0: a list), how many parts have begun, how many paragraphs the last one has. -/
structure Lv where
  wide : Nat
  parts : Nat
  cells : Nat
structure Wk where
  para : Bool
  br : List Int
  op : List Lv
  ah : Int
def wk0 : Wk := ⟨false, [], [], 0⟩
def isLk (k : Int) : Bool := decide (k = 3) || decide (k = 4)
def lv0 : Lv := ⟨0, 0, 0⟩
def topL (s : Wk) : Lv := s.op.getLast?.getD lv0
def tabB (o : Lv) : Bool := decide (0 < o.wide)
def shortB (o : Lv) : Bool := tabB o && decide (0 < o.parts) && decide (o.cells < o.wide)
def roomB (o : Lv) : Bool := decide (0 < o.parts) && (shortB o || !tabB o)
/-- Whether an operation of a kind may come next. -/
def mayS (s : Wk) (k : Int) : Bool :=
  if k = 3 ∨ k = 4 then !(s.br.any isLk) && decide (s.br.length ≠ 16) && s.para
  else if k = 2 then decide (s.br.length ≠ 16) && s.para
  else if k = 6 ∨ k = 7 then s.para
  else if k = 1 then s.para && decide (s.ah ≠ 1)
  else if k = 5 then decide (0 < s.br.length)
  else if k = 9 then s.para && decide (s.br.length = 0)
  else if k = 10 then decide (s.op.length ≠ 8) && !tabB (topL s) && !s.para && (decide (s.op.length = 0) || roomB (topL s))
  else if k = 8 then !s.para && (decide (s.op.length = 0) || roomB (topL s))
  else if k = 12 then !s.para && decide (s.op.length = 0)
  else if k = 11 then !s.para && decide (0 < s.op.length) && !tabB (topL s)
  else if k = 13 then tabB (topL s) && !s.para && decide (0 < s.op.length) && !shortB (topL s)
  else if k = 14 then !s.para && decide (0 < s.op.length) && !shortB (topL s)
  else false
def mapTop (f : Lv → Lv) (l : List Lv) : List Lv := l.dropLast ++ (l.getLast?.map f).toList
/-- What is open behind an operation. -/
def takeS (s : Wk) (o : Opr) : Wk :=
  if o.k = 2 ∨ o.k = 3 ∨ o.k = 4 then { s with br := s.br ++ [o.k], ah := o.k }
  else if o.k = 5 then { s with br := s.br.dropLast, ah := o.k }
  else if o.k = 8 then { s with para := true, op := mapTop (fun l => { l with cells := l.cells + 1 }) s.op, ah := o.k }
  else if o.k = 9 then { s with para := false, ah := o.k }
  else if o.k = 10 ∨ o.k = 12 then { s with op := s.op ++ [⟨o.w.length, 0, 0⟩], ah := o.k }
  else if o.k = 11 ∨ o.k = 13 then { s with op := mapTop (fun l => { l with parts := l.parts + 1, cells := 0 }) s.op, ah := o.k }
  else if o.k = 14 then { s with op := s.op.dropLast, ah := o.k }
  else { s with ah := o.k }
def endedB (s : Wk) : Bool := !s.para && decide (s.op.length = 0)
end Go.Proofs.YtjohhahfpgfjdaaGreatDoor
end
