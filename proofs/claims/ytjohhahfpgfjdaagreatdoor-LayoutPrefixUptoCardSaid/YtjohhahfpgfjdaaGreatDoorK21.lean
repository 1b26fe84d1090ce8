/- The texts that the laws of layout stand on, part 21. -/
import Derived.Test.YtjohhahfpgfjdaaGreatDoorK1
import Derived.Test.YtjohhahfpgfjdaaGreatDoorK2
import Derived.Test.YtjohhahfpgfjdaaGreatDoorK3
import Derived.Test.YtjohhahfpgfjdaaGreatDoorK6
import Derived.Test.YtjohhahfpgfjdaaGreatDoorK7
import Derived.Test.YtjohhahfpgfjdaaGreatDoorK8
import Derived.Test.YtjohhahfpgfjdaaGreatDoorK10
import Derived.Test.YtjohhahfpgfjdaaGreatDoorK20
import Derived.Lib.ItoaNum
section
namespace Go.Proofs.YtjohhahfpgfjdaaGreatDoor.Tb
set_option linter.unusedVariables false
set_option linter.unusedSimpArgs false
/-- A list that is open. -/
structure Li where
  num : Bool
  place : Int
  items : Int
/-- A topic of which some operations have been laid out. -/
structure Ly where
  sg : ByteArray
  pl : Int
  ls : List (List Gl)
  more : Bool
  lk : List (Int × Int)
  link : Int
  lo : List (S6.Lk × Bool)
  mg : Int
  li : List Li
  co : List (Int × Int)
  ce : List (List Gl)
  fl : List Gl
  ah : Int
def plainK : S6.Lk := ⟨0, 7⟩
def ly0 : Ly := ⟨.empty, 0, [], false, [], 0, [(plainK, false)], 0, [], [], [], [], 0⟩
def topLk (y : Ly) : S6.Lk := (y.lo.getLast?.map (·.1)).getD plainK
def tellY (y : Ly) (l : List Gl) : Ly := if y.ls.length = 2000 then { y with more := true } else { y with ls := y.ls ++ [l] }
def blk (n : Int) : List Gl := List.replicate n.toNat plainG
def leadY (y : Ly) : List Gl := blk y.pl ++ letsL y.sg
def freeY (y : Ly) : Ly := { y with sg := .empty, pl := 0 }
def settleY (y : Ly) : Ly := if y.sg.size = 0 then y else tellY (freeY y) (leadY y)
def styledK (ch : List S6.Chg) (y : Ly) (n : Int) : S6.Lk := if n < 0 then topLk y else S6.applyL (topLk y) (ch.getD n.toNat S6.zeroC)
def layY (y : Ly) (l : S6.Lk) (b : Bool) : Ly := { y with lo := y.lo ++ [(l, b)] }
def glY (y : Ly) (t : ByteArray) (wd : Int) : Gl := ⟨t, wd, (topLk y).att, (topLk y).col, y.link⟩
def putY (y : Ly) (t : ByteArray) (wd : Int) : Ly := { y with fl := y.fl ++ [glY y t wd] }
def celG (y : Ly) (s : ByteArray) (c : Cel) : Gl := glY y (s.extract c.1 c.2.1) c.2.2
def textY (y : Ly) (s : ByteArray) : Ly := { y with fl := y.fl ++ (cells s).map (celG y s) }
def linkY (y : Ly) (k n : Int) : Ly := layY { y with lk := y.lk ++ [(k, n)], link := (y.lk.length + 1 : Nat) } (topLk y) true
def offY (y : Ly) : Ly := { y with lo := y.lo.dropLast }
def closeY (y : Ly) : Ly := if (y.lo.getLast?.map (·.2)).getD false then { offY y with link := 0 } else offY y
def beginY (ch : List S6.Chg) (y : Ly) (n : Int) : Ly :=
  let y1 := if y.ah = 9 ∧ y.co.length = 0 then tellY y [] else y
  layY { y1 with fl := [] } (styledK ch y1 n) false
def lineY (y : Ly) (line : List Gl) : Ly := tellY (freeY y) (leadY y ++ (blk y.mg).drop (leadY y).length ++ line)
def linesY (y : Ly) (lines : List (List Gl)) : Ly := lines.foldl lineY (if lines.length = 0 then settleY y else y)
def doneY (wd : Int) (y : Ly) : Ly :=
  if y.co.length = 0 then { linesY (offY y) (fillL (wd - y.mg) y.fl) with fl := [] } else { offY y with ce := y.ce ++ [y.fl], fl := [] }
def listY (y : Ly) (n : Int) : Ly :=
  let y1 := settleY y
  { y1 with li := y1.li ++ [⟨decide (n ≠ 0), y1.mg, 0⟩] }
def li0 : Li := ⟨false, 0, 0⟩
def lastLi (y : Ly) : Li := y.li.getLast?.getD li0
def star : ByteArray := ⟨#[42]⟩
def dot : ByteArray := ⟨#[46]⟩
def sgnI (i : Li) : ByteArray := if i.num then ⟨(Lib.itoa i.items).toArray⟩ ++ dot else star
def itemY (wd : Int) (y : Ly) : Ly :=
  let y1 := settleY y
  let i : Li := { lastLi y1 with items := (lastLi y1).items + 1 }
  let s := sgnI i
  let m := min (i.place + s.size + 1) (wd - 4)
  let t := s.extract (s.size - m.toNat) s.size
  { y1 with li := y1.li.dropLast ++ [i], mg := m, sg := t, pl := min i.place (m - t.size) }
def rowY (y : Ly) : Ly := if y.ce.length = 0 then y else { (rowL y.co y.ce).foldl tellY y with ce := [] }
def endY (y : Ly) : Ly :=
  if y.co.length = 0 then
    let y1 := settleY y
    { y1 with li := y1.li.dropLast, mg := (lastLi y1).place }
  else { rowY y with co := [] }
def tabB' : ByteArray := ⟨#[9]⟩
def nlB : ByteArray := ⟨#[10]⟩
def stepY (wd : Int) (ch : List S6.Chg) (y : Ly) (x : Opr) : Ly :=
  if x.k = 8 then beginY ch y x.n
  else if x.k = 1 then textY y x.t
  else if x.k = 6 then putY y tabB' 1
  else if x.k = 7 then putY y nlB 1
  else if x.k = 2 then layY y (styledK ch y x.n) false
  else if x.k = 3 then linkY y 0 x.n
  else if x.k = 4 then linkY y 1 x.n
  else if x.k = 5 then closeY y
  else if x.k = 9 then doneY wd y
  else if x.k = 10 then listY y x.n
  else if x.k = 11 then itemY wd y
  else if x.k = 12 then { y with co := colsL x.w wd }
  else if x.k = 13 then rowY y
  else if x.k = 14 then endY y
  else y
def takeY (wd : Int) (ch : List S6.Chg) (y : Ly) (x : Opr) : Ly := { stepY wd ch y x with ah := x.k }
def runY (wd : Int) (ch : List S6.Chg) (l : List Opr) : Ly := l.foldl (takeY wd ch) ly0
def chgs (sh : List S6.Sty) : List S6.Chg := sh.map fun s => (S6.wholeM sh s.nm).1
def layE (sh : List S6.Sty) (l : List Opr) (tp wd : Int) : Int :=
  if wd < 10 ∨ 200 < wd then 1
  else if (S6.checkM sh).2 ≠ 0 then (S6.checkM sh).2
  else if (Ir.chkM l sh.length tp).2 ≠ 0 then (Ir.chkM l sh.length tp).2
  else if 1000 < tp then 2 else 0
def ldOf (y : Ly) : Ld := ⟨y.ls, rectsL y.ls, y.lk, y.more⟩
def ld0 : Ld := ⟨[], [], [], false⟩
def layL (sh : List S6.Sty) (l : List Opr) (tp wd : Int) : Ld := if layE sh l tp wd = 0 then ldOf (runY wd (chgs sh) l) else ld0
/-- The chapter's second example. -/
def exL : List Opr := [⟨8, -1, .empty, []⟩, ⟨1, 0, ⟨#[115, 101, 101, 32, 116, 104, 101, 32]⟩, []⟩, ⟨3, 0, .empty, []⟩, ⟨1, 0, ⟨#[103, 111, 32, 111, 110]⟩, []⟩, ⟨5, 0, .empty, []⟩, ⟨9, 0, .empty, []⟩]
set_option maxRecDepth 100000 in
theorem ex_err : layE [] exL 1 10 = 0 := by kernel_rfl
set_option maxRecDepth 100000 in
theorem ex_rects : (layL [] exL 1 10).rects = [⟨0, 8, 2, 1⟩, ⟨1, 0, 2, 1⟩] := by kernel_rfl
set_option maxRecDepth 100000 in
theorem ex_links : (layL [] exL 1 10).links = [(0, 0)] ∧ (layL [] exL 1 10).more = false := ⟨by kernel_rfl, by kernel_rfl⟩
set_option maxRecDepth 100000 in
theorem ex_lines : (layL [] exL 1 10).lines = [letsL ⟨#[115, 101, 101, 32, 116, 104, 101, 32]⟩ ++ [⟨⟨#[103]⟩, 1, 0, 7, 1⟩, ⟨⟨#[111]⟩, 1, 0, 7, 1⟩], [⟨⟨#[111]⟩, 1, 0, 7, 1⟩, ⟨⟨#[110]⟩, 1, 0, 7, 1⟩]] := by kernel_rfl
end Go.Proofs.YtjohhahfpgfjdaaGreatDoor.Tb
end
section
namespace Go.Proofs.YtjohhahfpgfjdaaGreatDoor.Tb
open Go.RowKit Go.Maps
set_option linter.unusedVariables false
set_option linter.unusedSimpArgs false
theorem get_setL {c : Array Value} {i j : Nat} {u : Value} (h : i < c.size) : (c.setIfInBounds i u)[j]? = if i = j then some u else c[j]? := by
  rw [Array.getElem?_setIfInBounds]
  by_cases e : i = j
  · rw [if_pos e, if_pos e, if_pos h]
  · rw [if_neg e, if_neg e]
structure LyC (c : Array Value) (wd : Int) (y : Ly) (vh vl vk vc ve vf : Value) : Prop where
  sz : c.size = 93
  sg : c[0]? = some (.string y.sg)
  pl : c[1]? = some (.int .i64 y.pl)
  wd : c[2]? = some (.int .i64 wd)
  ch : c[3]? = some (vh)
  ls : c[4]? = some (vl)
  mo : c[5]? = some (.bool y.more)
  lk : c[6]? = some (vk)
  ln : c[7]? = some (.int .i64 y.link)
  hi : c[62]? = some (.int .i64 (y.lo.length : Nat))
  mg : c[63]? = some (.int .i64 y.mg)
  de : c[88]? = some (.int .i64 (y.li.length : Nat))
  co : c[89]? = some (vc)
  ce : c[90]? = some (ve)
  fl : c[91]? = some (vf)
  ah : c[92]? = some (.int .i64 y.ah)
  lo : ∀ j (hj : j < y.lo.length), c[8 + j * 3]? = some (.int .i64 y.lo[j].1.att) ∧ c[8 + j * 3 + 1]? = some (.int .i64 y.lo[j].1.col) ∧ c[8 + j * 3 + 2]? = some (.bool y.lo[j].2)
  li : ∀ j (hj : j < y.li.length), c[64 + j * 3]? = some (.bool y.li[j].num) ∧ c[64 + j * 3 + 1]? = some (.int .i64 y.li[j].place) ∧ c[64 + j * 3 + 2]? = some (.int .i64 y.li[j].items)
  hlo : y.lo.length ≤ 18
  hli : y.li.length ≤ 8
section
variable {c : Array Value} {wd : Int} {y : Ly} {vh vl vk vc ve vf : Value}
theorem LyC.setSg (h : LyC c wd y vh vl vk vc ve vf) (t : ByteArray) : LyC (c.setIfInBounds 0 (.string t)) wd { y with sg := t } vh vl vk vc ve vf := by
  have hz := h.sz
  have a8 := h.hlo
  have a9 := h.hli
  have g : ∀ j, j ≠ 0 → (c.setIfInBounds 0 (.string t))[j]? = c[j]? := fun j hj => Array.getElem?_setIfInBounds_ne (fun e => hj e.symm)
  exact ⟨by simpa using hz, by rw [get_setL (by omega), if_pos rfl], (g _ (by omega)).trans h.pl, (g _ (by omega)).trans h.wd, (g _ (by omega)).trans h.ch, (g _ (by omega)).trans h.ls, (g _ (by omega)).trans h.mo, (g _ (by omega)).trans h.lk, (g _ (by omega)).trans h.ln, (g _ (by omega)).trans h.hi, (g _ (by omega)).trans h.mg, (g _ (by omega)).trans h.de, (g _ (by omega)).trans h.co, (g _ (by omega)).trans h.ce, (g _ (by omega)).trans h.fl, (g _ (by omega)).trans h.ah, fun j hj => by dsimp only at hj ⊢; rw [g _ (by omega), g _ (by omega), g _ (by omega)]; exact h.lo j hj, fun j hj => by dsimp only at hj ⊢; rw [g _ (by omega), g _ (by omega), g _ (by omega)]; exact h.li j hj, h.hlo, h.hli⟩
theorem LyC.setPl (h : LyC c wd y vh vl vk vc ve vf) (z : Int) : LyC (c.setIfInBounds 1 (.int .i64 z)) wd { y with pl := z } vh vl vk vc ve vf := by
  have hz := h.sz
  have a8 := h.hlo
  have a9 := h.hli
  have g : ∀ j, j ≠ 1 → (c.setIfInBounds 1 (.int .i64 z))[j]? = c[j]? := fun j hj => Array.getElem?_setIfInBounds_ne (fun e => hj e.symm)
  exact ⟨by simpa using hz, (g _ (by omega)).trans h.sg, by rw [get_setL (by omega), if_pos rfl], (g _ (by omega)).trans h.wd, (g _ (by omega)).trans h.ch, (g _ (by omega)).trans h.ls, (g _ (by omega)).trans h.mo, (g _ (by omega)).trans h.lk, (g _ (by omega)).trans h.ln, (g _ (by omega)).trans h.hi, (g _ (by omega)).trans h.mg, (g _ (by omega)).trans h.de, (g _ (by omega)).trans h.co, (g _ (by omega)).trans h.ce, (g _ (by omega)).trans h.fl, (g _ (by omega)).trans h.ah, fun j hj => by dsimp only at hj ⊢; rw [g _ (by omega), g _ (by omega), g _ (by omega)]; exact h.lo j hj, fun j hj => by dsimp only at hj ⊢; rw [g _ (by omega), g _ (by omega), g _ (by omega)]; exact h.li j hj, h.hlo, h.hli⟩
theorem LyC.setLs (h : LyC c wd y vh vl vk vc ve vf) (vl' : Value) (l : List (List Gl)) : LyC (c.setIfInBounds 4 (vl')) wd { y with ls := l } vh vl' vk vc ve vf := by
  have hz := h.sz
  have a8 := h.hlo
  have a9 := h.hli
  have g : ∀ j, j ≠ 4 → (c.setIfInBounds 4 (vl'))[j]? = c[j]? := fun j hj => Array.getElem?_setIfInBounds_ne (fun e => hj e.symm)
  exact ⟨by simpa using hz, (g _ (by omega)).trans h.sg, (g _ (by omega)).trans h.pl, (g _ (by omega)).trans h.wd, (g _ (by omega)).trans h.ch, by rw [get_setL (by omega), if_pos rfl], (g _ (by omega)).trans h.mo, (g _ (by omega)).trans h.lk, (g _ (by omega)).trans h.ln, (g _ (by omega)).trans h.hi, (g _ (by omega)).trans h.mg, (g _ (by omega)).trans h.de, (g _ (by omega)).trans h.co, (g _ (by omega)).trans h.ce, (g _ (by omega)).trans h.fl, (g _ (by omega)).trans h.ah, fun j hj => by dsimp only at hj ⊢; rw [g _ (by omega), g _ (by omega), g _ (by omega)]; exact h.lo j hj, fun j hj => by dsimp only at hj ⊢; rw [g _ (by omega), g _ (by omega), g _ (by omega)]; exact h.li j hj, h.hlo, h.hli⟩
theorem LyC.setMo (h : LyC c wd y vh vl vk vc ve vf) (b : Bool) : LyC (c.setIfInBounds 5 (.bool b)) wd { y with more := b } vh vl vk vc ve vf := by
  have hz := h.sz
  have a8 := h.hlo
  have a9 := h.hli
  have g : ∀ j, j ≠ 5 → (c.setIfInBounds 5 (.bool b))[j]? = c[j]? := fun j hj => Array.getElem?_setIfInBounds_ne (fun e => hj e.symm)
  exact ⟨by simpa using hz, (g _ (by omega)).trans h.sg, (g _ (by omega)).trans h.pl, (g _ (by omega)).trans h.wd, (g _ (by omega)).trans h.ch, (g _ (by omega)).trans h.ls, by rw [get_setL (by omega), if_pos rfl], (g _ (by omega)).trans h.lk, (g _ (by omega)).trans h.ln, (g _ (by omega)).trans h.hi, (g _ (by omega)).trans h.mg, (g _ (by omega)).trans h.de, (g _ (by omega)).trans h.co, (g _ (by omega)).trans h.ce, (g _ (by omega)).trans h.fl, (g _ (by omega)).trans h.ah, fun j hj => by dsimp only at hj ⊢; rw [g _ (by omega), g _ (by omega), g _ (by omega)]; exact h.lo j hj, fun j hj => by dsimp only at hj ⊢; rw [g _ (by omega), g _ (by omega), g _ (by omega)]; exact h.li j hj, h.hlo, h.hli⟩
theorem LyC.setLk (h : LyC c wd y vh vl vk vc ve vf) (vk' : Value) (l : List (Int × Int)) : LyC (c.setIfInBounds 6 (vk')) wd { y with lk := l } vh vl vk' vc ve vf := by
  have hz := h.sz
  have a8 := h.hlo
  have a9 := h.hli
  have g : ∀ j, j ≠ 6 → (c.setIfInBounds 6 (vk'))[j]? = c[j]? := fun j hj => Array.getElem?_setIfInBounds_ne (fun e => hj e.symm)
  exact ⟨by simpa using hz, (g _ (by omega)).trans h.sg, (g _ (by omega)).trans h.pl, (g _ (by omega)).trans h.wd, (g _ (by omega)).trans h.ch, (g _ (by omega)).trans h.ls, (g _ (by omega)).trans h.mo, by rw [get_setL (by omega), if_pos rfl], (g _ (by omega)).trans h.ln, (g _ (by omega)).trans h.hi, (g _ (by omega)).trans h.mg, (g _ (by omega)).trans h.de, (g _ (by omega)).trans h.co, (g _ (by omega)).trans h.ce, (g _ (by omega)).trans h.fl, (g _ (by omega)).trans h.ah, fun j hj => by dsimp only at hj ⊢; rw [g _ (by omega), g _ (by omega), g _ (by omega)]; exact h.lo j hj, fun j hj => by dsimp only at hj ⊢; rw [g _ (by omega), g _ (by omega), g _ (by omega)]; exact h.li j hj, h.hlo, h.hli⟩
theorem LyC.setLn (h : LyC c wd y vh vl vk vc ve vf) (z : Int) : LyC (c.setIfInBounds 7 (.int .i64 z)) wd { y with link := z } vh vl vk vc ve vf := by
  have hz := h.sz
  have a8 := h.hlo
  have a9 := h.hli
  have g : ∀ j, j ≠ 7 → (c.setIfInBounds 7 (.int .i64 z))[j]? = c[j]? := fun j hj => Array.getElem?_setIfInBounds_ne (fun e => hj e.symm)
  exact ⟨by simpa using hz, (g _ (by omega)).trans h.sg, (g _ (by omega)).trans h.pl, (g _ (by omega)).trans h.wd, (g _ (by omega)).trans h.ch, (g _ (by omega)).trans h.ls, (g _ (by omega)).trans h.mo, (g _ (by omega)).trans h.lk, by rw [get_setL (by omega), if_pos rfl], (g _ (by omega)).trans h.hi, (g _ (by omega)).trans h.mg, (g _ (by omega)).trans h.de, (g _ (by omega)).trans h.co, (g _ (by omega)).trans h.ce, (g _ (by omega)).trans h.fl, (g _ (by omega)).trans h.ah, fun j hj => by dsimp only at hj ⊢; rw [g _ (by omega), g _ (by omega), g _ (by omega)]; exact h.lo j hj, fun j hj => by dsimp only at hj ⊢; rw [g _ (by omega), g _ (by omega), g _ (by omega)]; exact h.li j hj, h.hlo, h.hli⟩
theorem LyC.setMg (h : LyC c wd y vh vl vk vc ve vf) (z : Int) : LyC (c.setIfInBounds 63 (.int .i64 z)) wd { y with mg := z } vh vl vk vc ve vf := by
  have hz := h.sz
  have a8 := h.hlo
  have a9 := h.hli
  have g : ∀ j, j ≠ 63 → (c.setIfInBounds 63 (.int .i64 z))[j]? = c[j]? := fun j hj => Array.getElem?_setIfInBounds_ne (fun e => hj e.symm)
  exact ⟨by simpa using hz, (g _ (by omega)).trans h.sg, (g _ (by omega)).trans h.pl, (g _ (by omega)).trans h.wd, (g _ (by omega)).trans h.ch, (g _ (by omega)).trans h.ls, (g _ (by omega)).trans h.mo, (g _ (by omega)).trans h.lk, (g _ (by omega)).trans h.ln, (g _ (by omega)).trans h.hi, by rw [get_setL (by omega), if_pos rfl], (g _ (by omega)).trans h.de, (g _ (by omega)).trans h.co, (g _ (by omega)).trans h.ce, (g _ (by omega)).trans h.fl, (g _ (by omega)).trans h.ah, fun j hj => by dsimp only at hj ⊢; rw [g _ (by omega), g _ (by omega), g _ (by omega)]; exact h.lo j hj, fun j hj => by dsimp only at hj ⊢; rw [g _ (by omega), g _ (by omega), g _ (by omega)]; exact h.li j hj, h.hlo, h.hli⟩
theorem LyC.setCo (h : LyC c wd y vh vl vk vc ve vf) (vc' : Value) (l : List (Int × Int)) : LyC (c.setIfInBounds 89 (vc')) wd { y with co := l } vh vl vk vc' ve vf := by
  have hz := h.sz
  have a8 := h.hlo
  have a9 := h.hli
  have g : ∀ j, j ≠ 89 → (c.setIfInBounds 89 (vc'))[j]? = c[j]? := fun j hj => Array.getElem?_setIfInBounds_ne (fun e => hj e.symm)
  exact ⟨by simpa using hz, (g _ (by omega)).trans h.sg, (g _ (by omega)).trans h.pl, (g _ (by omega)).trans h.wd, (g _ (by omega)).trans h.ch, (g _ (by omega)).trans h.ls, (g _ (by omega)).trans h.mo, (g _ (by omega)).trans h.lk, (g _ (by omega)).trans h.ln, (g _ (by omega)).trans h.hi, (g _ (by omega)).trans h.mg, (g _ (by omega)).trans h.de, by rw [get_setL (by omega), if_pos rfl], (g _ (by omega)).trans h.ce, (g _ (by omega)).trans h.fl, (g _ (by omega)).trans h.ah, fun j hj => by dsimp only at hj ⊢; rw [g _ (by omega), g _ (by omega), g _ (by omega)]; exact h.lo j hj, fun j hj => by dsimp only at hj ⊢; rw [g _ (by omega), g _ (by omega), g _ (by omega)]; exact h.li j hj, h.hlo, h.hli⟩
theorem LyC.setCe (h : LyC c wd y vh vl vk vc ve vf) (ve' : Value) (l : List (List Gl)) : LyC (c.setIfInBounds 90 (ve')) wd { y with ce := l } vh vl vk vc ve' vf := by
  have hz := h.sz
  have a8 := h.hlo
  have a9 := h.hli
  have g : ∀ j, j ≠ 90 → (c.setIfInBounds 90 (ve'))[j]? = c[j]? := fun j hj => Array.getElem?_setIfInBounds_ne (fun e => hj e.symm)
  exact ⟨by simpa using hz, (g _ (by omega)).trans h.sg, (g _ (by omega)).trans h.pl, (g _ (by omega)).trans h.wd, (g _ (by omega)).trans h.ch, (g _ (by omega)).trans h.ls, (g _ (by omega)).trans h.mo, (g _ (by omega)).trans h.lk, (g _ (by omega)).trans h.ln, (g _ (by omega)).trans h.hi, (g _ (by omega)).trans h.mg, (g _ (by omega)).trans h.de, (g _ (by omega)).trans h.co, by rw [get_setL (by omega), if_pos rfl], (g _ (by omega)).trans h.fl, (g _ (by omega)).trans h.ah, fun j hj => by dsimp only at hj ⊢; rw [g _ (by omega), g _ (by omega), g _ (by omega)]; exact h.lo j hj, fun j hj => by dsimp only at hj ⊢; rw [g _ (by omega), g _ (by omega), g _ (by omega)]; exact h.li j hj, h.hlo, h.hli⟩
theorem LyC.setFl (h : LyC c wd y vh vl vk vc ve vf) (vf' : Value) (l : List Gl) : LyC (c.setIfInBounds 91 (vf')) wd { y with fl := l } vh vl vk vc ve vf' := by
  have hz := h.sz
  have a8 := h.hlo
  have a9 := h.hli
  have g : ∀ j, j ≠ 91 → (c.setIfInBounds 91 (vf'))[j]? = c[j]? := fun j hj => Array.getElem?_setIfInBounds_ne (fun e => hj e.symm)
  exact ⟨by simpa using hz, (g _ (by omega)).trans h.sg, (g _ (by omega)).trans h.pl, (g _ (by omega)).trans h.wd, (g _ (by omega)).trans h.ch, (g _ (by omega)).trans h.ls, (g _ (by omega)).trans h.mo, (g _ (by omega)).trans h.lk, (g _ (by omega)).trans h.ln, (g _ (by omega)).trans h.hi, (g _ (by omega)).trans h.mg, (g _ (by omega)).trans h.de, (g _ (by omega)).trans h.co, (g _ (by omega)).trans h.ce, by rw [get_setL (by omega), if_pos rfl], (g _ (by omega)).trans h.ah, fun j hj => by dsimp only at hj ⊢; rw [g _ (by omega), g _ (by omega), g _ (by omega)]; exact h.lo j hj, fun j hj => by dsimp only at hj ⊢; rw [g _ (by omega), g _ (by omega), g _ (by omega)]; exact h.li j hj, h.hlo, h.hli⟩
theorem LyC.setAh (h : LyC c wd y vh vl vk vc ve vf) (z : Int) : LyC (c.setIfInBounds 92 (.int .i64 z)) wd { y with ah := z } vh vl vk vc ve vf := by
  have hz := h.sz
  have a8 := h.hlo
  have a9 := h.hli
  have g : ∀ j, j ≠ 92 → (c.setIfInBounds 92 (.int .i64 z))[j]? = c[j]? := fun j hj => Array.getElem?_setIfInBounds_ne (fun e => hj e.symm)
  exact ⟨by simpa using hz, (g _ (by omega)).trans h.sg, (g _ (by omega)).trans h.pl, (g _ (by omega)).trans h.wd, (g _ (by omega)).trans h.ch, (g _ (by omega)).trans h.ls, (g _ (by omega)).trans h.mo, (g _ (by omega)).trans h.lk, (g _ (by omega)).trans h.ln, (g _ (by omega)).trans h.hi, (g _ (by omega)).trans h.mg, (g _ (by omega)).trans h.de, (g _ (by omega)).trans h.co, (g _ (by omega)).trans h.ce, (g _ (by omega)).trans h.fl, by rw [get_setL (by omega), if_pos rfl], fun j hj => by dsimp only at hj ⊢; rw [g _ (by omega), g _ (by omega), g _ (by omega)]; exact h.lo j hj, fun j hj => by dsimp only at hj ⊢; rw [g _ (by omega), g _ (by omega), g _ (by omega)]; exact h.li j hj, h.hlo, h.hli⟩
theorem LyC.reFl (h : LyC c wd y vh vl vk vc ve vf) (l : List Gl) : LyC c wd { y with fl := l } vh vl vk vc ve vf := ⟨h.sz, h.sg, h.pl, h.wd, h.ch, h.ls, h.mo, h.lk, h.ln, h.hi, h.mg, h.de, h.co, h.ce, h.fl, h.ah, h.lo, h.li, h.hlo, h.hli⟩
theorem LyC.pushLo (h : LyC c wd y vh vl vk vc ve vf) (k : S6.Lk) (b : Bool) (hn : y.lo.length < 18) : LyC ((((c.setIfInBounds (8 + y.lo.length * 3) (.int .i64 k.att)).setIfInBounds (8 + y.lo.length * 3 + 1) (.int .i64 k.col)).setIfInBounds (8 + y.lo.length * 3 + 2) (.bool b)).setIfInBounds 62 (.int .i64 ((y.lo.length + 1 : Nat) : Int))) wd { y with lo := y.lo ++ [(k, b)] } vh vl vk vc ve vf := by
  have hz := h.sz
  have a8 := h.hlo
  have a9 := h.hli
  have g : ∀ j, j ≠ 62 → (j < 8 + y.lo.length * 3 ∨ 8 + y.lo.length * 3 + 2 < j) → ((((c.setIfInBounds (8 + y.lo.length * 3) (.int .i64 k.att)).setIfInBounds (8 + y.lo.length * 3 + 1) (.int .i64 k.col)).setIfInBounds (8 + y.lo.length * 3 + 2) (.bool b)).setIfInBounds 62 (.int .i64 ((y.lo.length + 1 : Nat) : Int)))[j]? = c[j]? := fun j hj hk => by
    rw [Array.getElem?_setIfInBounds_ne (fun e => hj e.symm), Array.getElem?_setIfInBounds_ne (by omega), Array.getElem?_setIfInBounds_ne (by omega), Array.getElem?_setIfInBounds_ne (by omega)]
  refine ⟨by simpa using hz, (g _ (by omega) (by omega)).trans h.sg, (g _ (by omega) (by omega)).trans h.pl, (g _ (by omega) (by omega)).trans h.wd, (g _ (by omega) (by omega)).trans h.ch, (g _ (by omega) (by omega)).trans h.ls, (g _ (by omega) (by omega)).trans h.mo, (g _ (by omega) (by omega)).trans h.lk, (g _ (by omega) (by omega)).trans h.ln, by rw [get_setL (by simp; omega), if_pos rfl]; simp, (g _ (by omega) (by omega)).trans h.mg, (g _ (by omega) (by omega)).trans h.de, (g _ (by omega) (by omega)).trans h.co, (g _ (by omega) (by omega)).trans h.ce, (g _ (by omega) (by omega)).trans h.fl, (g _ (by omega) (by omega)).trans h.ah, fun j hj => ?_, fun j hj => by dsimp only at hj ⊢; rw [g _ (by omega) (by omega), g _ (by omega) (by omega), g _ (by omega) (by omega)]; exact h.li j hj, by simp; omega, h.hli⟩
  dsimp only at hj ⊢
  rw [List.length_append, List.length_singleton] at hj
  rcases Nat.lt_or_ge j y.lo.length with hl | hl
  · rw [g _ (by omega) (by omega), g _ (by omega) (by omega), g _ (by omega) (by omega), List.getElem_append_left hl]
    exact h.lo j hl
  · obtain rfl : j = y.lo.length := by omega
    refine ⟨?_, ?_, ?_⟩
    · rw [Array.getElem?_setIfInBounds_ne (by omega), Array.getElem?_setIfInBounds_ne (by omega), Array.getElem?_setIfInBounds_ne (by omega), get_setL (by omega), if_pos rfl]
      simp
    · rw [Array.getElem?_setIfInBounds_ne (by omega), Array.getElem?_setIfInBounds_ne (by omega), get_setL (by simp; omega), if_pos rfl]
      simp
    · rw [Array.getElem?_setIfInBounds_ne (by omega), get_setL (by simp; omega), if_pos rfl]
      simp
theorem LyC.pushLi (h : LyC c wd y vh vl vk vc ve vf) (x : Li) (hn : y.li.length < 8) : LyC ((((c.setIfInBounds (64 + y.li.length * 3) (.bool x.num)).setIfInBounds (64 + y.li.length * 3 + 1) (.int .i64 x.place)).setIfInBounds (64 + y.li.length * 3 + 2) (.int .i64 x.items)).setIfInBounds 88 (.int .i64 ((y.li.length + 1 : Nat) : Int))) wd { y with li := y.li ++ [x] } vh vl vk vc ve vf := by
  have hz := h.sz
  have a8 := h.hlo
  have a9 := h.hli
  have g : ∀ j, j ≠ 88 → (j < 64 + y.li.length * 3 ∨ 64 + y.li.length * 3 + 2 < j) → ((((c.setIfInBounds (64 + y.li.length * 3) (.bool x.num)).setIfInBounds (64 + y.li.length * 3 + 1) (.int .i64 x.place)).setIfInBounds (64 + y.li.length * 3 + 2) (.int .i64 x.items)).setIfInBounds 88 (.int .i64 ((y.li.length + 1 : Nat) : Int)))[j]? = c[j]? := fun j hj hk => by
    rw [Array.getElem?_setIfInBounds_ne (fun e => hj e.symm), Array.getElem?_setIfInBounds_ne (by omega), Array.getElem?_setIfInBounds_ne (by omega), Array.getElem?_setIfInBounds_ne (by omega)]
  refine ⟨by simpa using hz, (g _ (by omega) (by omega)).trans h.sg, (g _ (by omega) (by omega)).trans h.pl, (g _ (by omega) (by omega)).trans h.wd, (g _ (by omega) (by omega)).trans h.ch, (g _ (by omega) (by omega)).trans h.ls, (g _ (by omega) (by omega)).trans h.mo, (g _ (by omega) (by omega)).trans h.lk, (g _ (by omega) (by omega)).trans h.ln, (g _ (by omega) (by omega)).trans h.hi, (g _ (by omega) (by omega)).trans h.mg, by rw [get_setL (by simp; omega), if_pos rfl]; simp, (g _ (by omega) (by omega)).trans h.co, (g _ (by omega) (by omega)).trans h.ce, (g _ (by omega) (by omega)).trans h.fl, (g _ (by omega) (by omega)).trans h.ah, fun j hj => by dsimp only at hj ⊢; rw [g _ (by omega) (by omega), g _ (by omega) (by omega), g _ (by omega) (by omega)]; exact h.lo j hj, fun j hj => ?_, h.hlo, by simp; omega⟩
  dsimp only at hj ⊢
  rw [List.length_append, List.length_singleton] at hj
  rcases Nat.lt_or_ge j y.li.length with hl | hl
  · rw [g _ (by omega) (by omega), g _ (by omega) (by omega), g _ (by omega) (by omega), List.getElem_append_left hl]
    exact h.li j hl
  · obtain rfl : j = y.li.length := by omega
    refine ⟨?_, ?_, ?_⟩
    · rw [Array.getElem?_setIfInBounds_ne (by omega), Array.getElem?_setIfInBounds_ne (by omega), Array.getElem?_setIfInBounds_ne (by omega), get_setL (by omega), if_pos rfl]
      simp
    · rw [Array.getElem?_setIfInBounds_ne (by omega), Array.getElem?_setIfInBounds_ne (by omega), get_setL (by simp; omega), if_pos rfl]
      simp
    · rw [Array.getElem?_setIfInBounds_ne (by omega), get_setL (by simp; omega), if_pos rfl]
      simp
theorem LyC.popLo (h : LyC c wd y vh vl vk vc ve vf) (n : Nat) (hn : y.lo.length = n + 1) : LyC (c.setIfInBounds 62 (.int .i64 (n : Int))) wd { y with lo := y.lo.dropLast } vh vl vk vc ve vf := by
  have hz := h.sz
  have a8 := h.hlo
  have a9 := h.hli
  have hl : y.lo.dropLast.length = n := by rw [List.length_dropLast]; omega
  have g : ∀ j, j ≠ 62 → (c.setIfInBounds 62 (.int .i64 (n : Int)))[j]? = c[j]? := fun j hj => Array.getElem?_setIfInBounds_ne (fun e => hj e.symm)
  refine ⟨by simpa using hz, (g _ (by omega)).trans h.sg, (g _ (by omega)).trans h.pl, (g _ (by omega)).trans h.wd, (g _ (by omega)).trans h.ch, (g _ (by omega)).trans h.ls, (g _ (by omega)).trans h.mo, (g _ (by omega)).trans h.lk, (g _ (by omega)).trans h.ln, by rw [get_setL (by omega), if_pos rfl]; dsimp only; rw [hl], (g _ (by omega)).trans h.mg, (g _ (by omega)).trans h.de, (g _ (by omega)).trans h.co, (g _ (by omega)).trans h.ce, (g _ (by omega)).trans h.fl, (g _ (by omega)).trans h.ah, fun j hj => ?_, fun j hj => by dsimp only at hj ⊢; rw [g _ (by omega), g _ (by omega), g _ (by omega)]; exact h.li j hj, by dsimp only; omega, h.hli⟩
  dsimp only at hj ⊢
  rw [g _ (by omega), g _ (by omega), g _ (by omega), List.getElem_dropLast]
  exact h.lo j (by omega)
theorem LyC.popLi (h : LyC c wd y vh vl vk vc ve vf) (n : Nat) (hn : y.li.length = n + 1) : LyC (c.setIfInBounds 88 (.int .i64 (n : Int))) wd { y with li := y.li.dropLast } vh vl vk vc ve vf := by
  have hz := h.sz
  have a8 := h.hlo
  have a9 := h.hli
  have hl : y.li.dropLast.length = n := by rw [List.length_dropLast]; omega
  have g : ∀ j, j ≠ 88 → (c.setIfInBounds 88 (.int .i64 (n : Int)))[j]? = c[j]? := fun j hj => Array.getElem?_setIfInBounds_ne (fun e => hj e.symm)
  refine ⟨by simpa using hz, (g _ (by omega)).trans h.sg, (g _ (by omega)).trans h.pl, (g _ (by omega)).trans h.wd, (g _ (by omega)).trans h.ch, (g _ (by omega)).trans h.ls, (g _ (by omega)).trans h.mo, (g _ (by omega)).trans h.lk, (g _ (by omega)).trans h.ln, (g _ (by omega)).trans h.hi, (g _ (by omega)).trans h.mg, by rw [get_setL (by omega), if_pos rfl]; dsimp only; rw [hl], (g _ (by omega)).trans h.co, (g _ (by omega)).trans h.ce, (g _ (by omega)).trans h.fl, (g _ (by omega)).trans h.ah, fun j hj => by dsimp only at hj ⊢; rw [g _ (by omega), g _ (by omega), g _ (by omega)]; exact h.lo j hj, fun j hj => ?_, h.hlo, by dsimp only; omega⟩
  dsimp only at hj ⊢
  rw [g _ (by omega), g _ (by omega), g _ (by omega), List.getElem_dropLast]
  exact h.li j (by omega)
theorem LyC.setItems (h : LyC c wd y vh vl vk vc ve vf) (n : Nat) (hn : y.li.length = n + 1) (z : Int) : LyC (c.setIfInBounds (64 + n * 3 + 2) (.int .i64 z)) wd { y with li := y.li.dropLast ++ [{ lastLi y with items := z }] } vh vl vk vc ve vf := by
  have hz := h.sz
  have a8 := h.hlo
  have a9 := h.hli
  have hl : y.li.dropLast.length = n := by rw [List.length_dropLast]; omega
  have e : lastLi y = y.li[n] := by
    unfold lastLi
    rw [List.getLast?_eq_getElem?, show y.li.length - 1 = n by omega, List.getElem?_eq_getElem (by omega)]
    rfl
  have g : ∀ j, j ≠ 64 + n * 3 + 2 → (c.setIfInBounds (64 + n * 3 + 2) (.int .i64 z))[j]? = c[j]? := fun j hj => Array.getElem?_setIfInBounds_ne (fun e => hj e.symm)
  refine ⟨by simpa using hz, (g _ (by omega)).trans h.sg, (g _ (by omega)).trans h.pl, (g _ (by omega)).trans h.wd, (g _ (by omega)).trans h.ch, (g _ (by omega)).trans h.ls, (g _ (by omega)).trans h.mo, (g _ (by omega)).trans h.lk, (g _ (by omega)).trans h.ln, (g _ (by omega)).trans h.hi, (g _ (by omega)).trans h.mg, by dsimp only; rw [List.length_append, List.length_singleton, hl, ← hn]; exact (g _ (by omega)).trans h.de, (g _ (by omega)).trans h.co, (g _ (by omega)).trans h.ce, (g _ (by omega)).trans h.fl, (g _ (by omega)).trans h.ah, fun j hj => by dsimp only at hj ⊢; rw [g _ (by omega), g _ (by omega), g _ (by omega)]; exact h.lo j hj, fun j hj => ?_, h.hlo, by dsimp only; rw [List.length_append, List.length_singleton, hl]; omega⟩
  dsimp only at hj ⊢
  rw [List.length_append, List.length_singleton, hl] at hj
  rcases Nat.lt_or_ge j n with hj2 | hj2
  · rw [g _ (by omega), g _ (by omega), g _ (by omega), List.getElem_append_left (by omega), List.getElem_dropLast]
    exact h.li j (by omega)
  · obtain rfl : j = n := by omega
    have h3 := h.li j (by omega)
    rw [List.getElem_append_right (by omega)]
    simp only [hl, Nat.sub_self, List.getElem_singleton, e]
    refine ⟨?_, ?_, ?_⟩
    · rw [g _ (by omega)]; exact h3.1
    · rw [g _ (by omega)]; exact h3.2.1
    · rw [get_setL (by omega), if_pos rfl]
end
end Go.Proofs.YtjohhahfpgfjdaaGreatDoor.Tb
end
