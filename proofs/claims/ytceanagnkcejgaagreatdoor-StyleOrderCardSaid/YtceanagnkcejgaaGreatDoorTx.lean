/- Plain model of layer 6: a style's text, written and read. Nothing of the program is in it. -/
import Derived.Test.YtceanagnkcejgaaGreatDoorBt
namespace Go.Proofs.YtceanagnkcejgaaGreatDoor
open Go Go.RowKit
set_option linter.unusedVariables false

def attrW : List (List UInt8) := [[98, 111, 108, 100], [105, 116, 97, 108, 105, 99], [117, 110, 100, 101, 114], [115, 116, 114, 105, 107, 101], [109, 111, 110, 111], [115, 109, 97, 108, 108], [114, 101, 118, 101, 114, 115, 101]]
def colorW : List UInt8 := [99, 111, 108, 111, 114]
def bitT (sg : UInt8) (n k : Nat) : List UInt8 := if n.testBit k then 32 :: sg :: attrW.getD k [] else []
/-- The words of the bits below k. -/
def bitsT (sg : UInt8) (n : Nat) : Nat → List UInt8
  | 0 => []
  | k + 1 => bitsT sg n k ++ bitT sg n k
def itoaL (n : Nat) : List UInt8 := if n < 10 then [UInt8.ofNat (48 + n)] else [49, UInt8.ofNat (38 + n)]
def colT (c : Int) : List UInt8 := if c = -1 then [] else 32 :: (colorW ++ 32 :: itoaL c.toNat)
def parT (p : List UInt8) : List UInt8 := if p = [] then [] else 58 :: p
def textS (s : Sty) : List UInt8 := s.nm ++ parT s.pr ++ bitsT 43 s.ch.on.toNat 7 ++ bitsT 45 s.ch.off.toNat 7 ++ colT s.ch.col
def wrE (s : Sty) : Nat := if nameB s.nm = false then 60 else if ownE s.ch ≠ 0 then ownE s.ch else if ¬ s.pr = [] ∧ nameB s.pr = false then 64 else 0
def writeM (s : Sty) : List UInt8 × Nat := if wrE s ≠ 0 then ([], wrE s) else (textS s, 0)

/-- What stands between blanks; what has been gathered of a word. -/
def wsp : List UInt8 → List UInt8 → List (List UInt8)
  | a, [] => if a = [] then [] else [a]
  | a, c :: r => if c = 32 then (if a = [] then wsp [] r else a :: wsp [] r) else wsp (a ++ [c]) r
def wordsL (t : List UInt8) : List (List UInt8) := wsp [] t
def nmsM (w : List UInt8) : Option (List UInt8 × List UInt8) := match w.dropWhile (fun c => !(c == 58)) with
  | [] => if nameB w then some (w, []) else none
  | _ :: p => if nameB (w.takeWhile (fun c => !(c == 58))) && nameB p then some (w.takeWhile (fun c => !(c == 58)), p) else none
/-- Which attribute's word it is. -/
def idxW (w : List UInt8) : List (List UInt8) → Nat → Option Nat
  | [], _ => none
  | x :: r, k => if x = w then some k else idxW w r (k + 1)
def bitOf (w : List UInt8) : Int := match idxW w attrW 0 with
  | none => 0
  | some k => ((2 ^ k : Nat) : Int)
def colF (w : List UInt8) : Nat → Nat → Option Nat
  | 0, _ => none
  | f + 1, n => if itoaL n = w then some n else colF w f (n + 1)
def colOf (w : List UInt8) : Option Nat := colF w 16 0
def taken (c : Chg) (w : List UInt8) : Bool := bitOf w != 0 && bits .and .i64 (bits .or .i64 c.on c.off) (bitOf w) == 0
def chg1 (c : Chg) : List UInt8 → Option Chg
  | [] => none
  | g :: w => if g = 43 then (if taken c w then some ⟨bits .or .i64 c.on (bitOf w), c.off, c.col⟩ else none)
    else if g = 45 then (if taken c w then some ⟨c.on, bits .or .i64 c.off (bitOf w), c.col⟩ else none)
    else none
def prs : List (List UInt8) → Chg → Option Chg
  | [], c => some c
  | [w], c => if w = colorW then none else chg1 c w
  | w :: n :: r, c => if w = colorW then (if c.col = -1 then (match colOf n with
      | none => none
      | some k => prs r ⟨c.on, c.off, (k : Int)⟩) else none)
    else (match chg1 c w with
      | none => none
      | some d => prs (n :: r) d)
def parseW : List (List UInt8) → Sty × Nat
  | [] => (zeroS, 67)
  | w :: r => match nmsM w with
    | none => (zeroS, 67)
    | some p => match prs r none0 with
      | none => (zeroS, 67)
      | some c => (⟨p.1, p.2, c⟩, 0)
def parseM (t : List UInt8) : Sty × Nat := if 4096 < t.length then (zeroS, 2) else parseW (wordsL t)
end Go.Proofs.YtceanagnkcejgaaGreatDoor
