/- Plain model of layer 4: what stands in a source, line by line, byte by byte. Nothing of the program is in it. -/
import Derived.Test.YtceanagnkcejgaaGreatDoorChs
import Derived.Lib.SlTrimSet
namespace Go.Proofs.YtceanagnkcejgaaGreatDoor
open Go
set_option linter.unusedVariables false

def bs (l : List UInt8) : ByteArray := ⟨l.toArray⟩
structure Tok where
  kind : Nat
  name : List UInt8
  text : List UInt8
  line : Nat
  col : Nat
structure Wr where
  code : Nat
  line : Nat
  col : Nat
  word : List UInt8
structure Mk where
  out : List Tok
  opn : List Tok
  run : List UInt8
  beg : Nat × Nat
  gap : Option (Nat × Nat)
  parts : Bool
namespace Mk
def zero : Mk := ⟨[], [], [], (0, 0), none, false⟩
def gather (m : Mk) (s : List UInt8) (p : Nat × Nat) : Mk := { m with run := m.run ++ s, beg := if m.run = [] then p else m.beg, parts := true }
def fill (m : Mk) : Mk := match m.gap with
  | none => m
  | some p => { m.gather [32] p with gap := none }
def char (m : Mk) (s : List UInt8) (p : Nat × Nat) : Mk := m.fill.gather s p
def endRun (m : Mk) : Mk := if m.run = [] then m else { m with out := m.out ++ [⟨6, [], m.run, m.beg.1, m.beg.2⟩], run := [] }
def put (m : Mk) (k : Nat) (name text : List UInt8) (p : Nat × Nat) : Mk := { m.endRun with out := m.endRun.out ++ [⟨k, name, text, p.1, p.2⟩] }
def within (m : Mk) (k : Nat) (name : List UInt8) (p : Nat × Nat) : Mk := { m.fill.put k name [] p with parts := true }
def blank (m : Mk) (p : Nat × Nat) : Mk := if m.parts && m.gap.isNone then { m with gap := some p } else m
def openB (m : Mk) (name : List UInt8) (p : Nat × Nat) : Mk := { ({ m with opn := m.opn ++ [⟨3, name, [], p.1, p.2⟩] } : Mk).within 3 name p with parts := false }
def closeB (m : Mk) (p : Nat × Nat) : Mk := ({ m with opn := m.opn.dropLast } : Mk).within 5 [] p
def endPara (m : Mk) : Except Wr Mk := match m.opn.getLast? with
  | some t => .error ⟨45, t.line, t.col, t.name⟩
  | none => .ok { m.endRun with gap := none, parts := false }
/-- A token that is a whole line. -/
def whole (m : Mk) (k : Nat) (name text : List UInt8) (n : Nat) : Except Wr Mk := match m.endPara with
  | .error e => .error e
  | .ok m' => .ok (m'.put k name text (n, 1))
end Mk
def isL (c : UInt8) : Bool := 97 ≤ c && c ≤ 122
def isB (c : UInt8) : Bool := c == 32 || c == 9
def letL (l : List UInt8) : List UInt8 := l.takeWhile isL
def special (c : UInt8) : Bool := c == 92 || c == 123 || c == 125 || c == 124 || c == 46 || c == 35
def named (name rest ends : List UInt8) : Bool := name != [] && name.length ≤ 12 && (match rest with | [] => true | c :: _ => ends.contains c)
def stripL (l : List UInt8) : List UInt8 := Lib.trimS l [32, 9]
/-- The first character of what stands behind a backslash. -/
def behindL (r : List UInt8) : List UInt8 := r.take (if r = [] then 0 else (Utf8.decode (bs r) 0).2)

/-- One line of a paragraph, from a column on; so many bytes belong to the character ahead. -/
def textM (n : Nat) : List UInt8 → Nat → Nat → Mk → Except Wr Mk
  | [], _, _, m => .ok m
  | _ :: r, col, k + 1, m => textM n r (col + 1) k m
  | c :: r, col, 0, m =>
    if isB c then textM n r (col + 1) 0 (m.blank (n, col))
    else if c == 92 then (match r.head? with
      | none => .error ⟨42, n, col, behindL r⟩
      | some d => if special d then textM n r (col + 1) 1 (m.char [d] (n, col)) else .error ⟨42, n, col, behindL r⟩)
    else if c == 123 then
      (if named (letL r) (r.drop (letL r).length) [32, 9, 124, 125] then
        (if 16 ≤ m.opn.length then .error ⟨46, n, col, letL r⟩ else textM n r (col + 1) (letL r).length (m.openB (letL r) (n, col)))
      else .error ⟨43, n, col, []⟩)
    else if c == 125 then (if m.opn = [] then .error ⟨44, n, col, []⟩ else textM n r (col + 1) 0 (m.closeB (n, col)))
    else if c == 124 && !m.opn.isEmpty then textM n r (col + 1) 0 (m.within 4 [] (n, col))
    else textM n r (col + 1) 0 (m.char [c] (n, col))

/-- Where a line's first character stands that may not be. -/
def ctlB (r : Nat) : Bool := r ≤ 31 || (127 ≤ r && r ≤ 159)
def ubad (c : Ch) : Bool := badB c || (c.2.1 != 9 && ctlB c.2.1)
def badAt (l : List UInt8) : Option Nat := ((chars (bs l)).find? ubad).map (·.1)
/-- One line: its number, its bytes. -/
def lineM (n : Nat) (l : List UInt8) (m : Mk) : Except Wr Mk :=
  if 4096 < l.length then .error ⟨2, n, 1, []⟩
  else match badAt l with
  | some a => .error ⟨40, n, a + 1, []⟩
  | none =>
    if stripL l = [] then m.whole 2 [] [] n
    else if l.head? = some 35 then .ok m
    else if l.head? = some 46 then
      (if named (letL l.tail) (l.tail.drop (letL l.tail).length) [32, 9] then m.whole 1 (letL l.tail) (stripL (l.tail.drop (letL l.tail).length)) n
      else .error ⟨41, n, 2, (letL l.tail).take 12⟩)
    else (textM n l 1 0 m).map (·.blank (n, l.length + 1))
/-- A line and what stands behind its end. -/
def cutNL (l : List UInt8) : List UInt8 × List UInt8 := (l.takeWhile (· != 10), (l.dropWhile (· != 10)).drop 1)
def chop (l : List UInt8) : List UInt8 := if l.getLast? = some 13 then l.dropLast else l
def linesF : Nat → List UInt8 → List (List UInt8)
  | 0, _ => []
  | f + 1, l => if l = [] then [] else chop (cutNL l).1 :: linesF f (cutNL l).2
def lines (l : List UInt8) : List (List UInt8) := linesF l.length l
def linesM : List (List UInt8) → Nat → Mk → Except Wr Mk
  | [], _, m => m.endPara
  | l :: r, n, m => match lineM n l m with
    | .error e => .error e
    | .ok m' => linesM r (n + 1) m'
def lexM (l : List UInt8) : Except Wr (List Tok) :=
  if 65536 < l.length then .error ⟨2, 0, 0, []⟩ else (linesM (lines l) 1 Mk.zero).map (·.out)
end Go.Proofs.YtceanagnkcejgaaGreatDoor
