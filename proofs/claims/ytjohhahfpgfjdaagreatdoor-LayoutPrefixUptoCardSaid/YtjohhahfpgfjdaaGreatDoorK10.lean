/- The texts that the laws of layout stand on, part 10. -/
import Derived.Test.YtjohhahfpgfjdaaGreatDoorK9
import Derived.Lib.ItoaNum
import Derived.Test.YtjohhahfpgfjdaaGreatDoorProg
import Derived.WalkKit
import Derived.Lib.Hide
import Derived.IntWalk
import Derived.Lib.UnsafeStr
import Derived.Laws.OwnMore
import Derived.Deep.AppendLies
import Derived.Laws.IdiomStrings
import Derived.Laws.RangeAny
import GoSem.Core.Utf8
import Derived.Lib.SlTrimSet
import Derived.RowKit
import Derived.Laws.Entries
import Derived.StillTailTactics
import Derived.BigRegion
import Derived.BigQuiet
import Derived.Deep.QuietTactic
import Derived.Laws.BitsLemmas
import Derived.Laws.BitsAllLaws
import Derived.Lib.SmallJoins
import Derived.Shelf.Strings.SlTrimAscii
import Derived.Below
import Derived.ChangeSame
import Derived.Laws.AppendOwn
import Derived.WalkMore
section
namespace Go.Proofs.YtjohhahfpgfjdaaGreatDoor.S6
section
open Go.RowKit

theorem cell_in {w : World} {b o : Nat} {v : Value} (h : w.cell? ⟨b, o, none⟩ = some v) : b < w.heap.size := World.block_lt_of_cell? w _ h
theorem own_below {w w' : World} {base : Nat} {e : TypeId} {size : Nat} {v : Value} {n : Nat} {xs : List Value} (h : w.ownsRow base e size v n xs) (hb : Below w.heap.size w w') : w'.ownsRow base e size v n xs := by
  refine ⟨h.1, ?_⟩
  rcases h.2 with h0 | ⟨g, cap, cur, h1, h2, h3, h4⟩
  · exact .inl h0
  · exact .inr ⟨g, cap, cur, h1, h2, (hb.block g (Array.getElem?_eq_some_iff.1 h3).1).trans h3, h4⟩
def Says (v : Value) (w : World) (e : Ending) (w' : World) : Prop := e = .returned v ∧ Below w.heap.size w w'
theorem take_next {l : List UInt8} {k : Nat} (h : k < l.length) : l.take (k + 1) = l.take k ++ [l[k]] := List.take_succ_eq_append_getElem h
end
section
open Go

theorem decode_fits (s : ByteArray) (pos : Nat) (h : pos < s.size) : pos + (Utf8.decode s pos).2 ≤ s.size := by
  simp only [Utf8.decode]
  repeat' split
  all_goals simp_all
  all_goals omega
theorem width_pos (s : ByteArray) (pos : Nat) (h : pos < s.size) : 1 ≤ (Utf8.decode s pos).2 := by
  by_cases ha : (s[pos]'h).toNat < 128
  · rw [decode_ascii s pos h ha]
    exact Nat.le_refl _
  · exact (decode_high s pos h (by omega)).2

/-- A character: its place, its code point, its bytes. -/
abbrev Ch := Nat × Nat × Nat
def chs (s : ByteArray) : Nat → Nat → List Ch
  | 0, _ => []
  | fuel + 1, pos => if pos < s.size then (pos, (Utf8.decode s pos).1, (Utf8.decode s pos).2) :: chs s fuel (pos + (Utf8.decode s pos).2) else []
def chars (s : ByteArray) : List Ch := chs s s.size 0
def badB (c : Ch) : Bool := c.2.1 == 65533 && c.2.2 == 1

theorem chs_end (s : ByteArray) (fuel pos : Nat) (h : ¬ pos < s.size) : chs s fuel pos = [] := by
  cases fuel with
  | zero => rfl
  | succ f => simp [chs, h]
theorem chs_head (s : ByteArray) (fuel pos : Nat) (h : 0 < (chs s fuel pos).length) : ((chs s fuel pos)[0]'h).1 = pos := by
  cases fuel with
  | zero => simp [chs] at h
  | succ f =>
    by_cases hp : pos < s.size
    · simp [chs, hp]
    · simp [chs, hp] at h
/-- Each character ends where the next one begins, the last one at the text's end. -/
theorem chs_ends (s : ByteArray) : ∀ (fuel pos : Nat), s.size ≤ pos + fuel → pos ≤ s.size → ∀ (i : Nat) (h : i < (chs s fuel pos).length),
    ((chs s fuel pos)[i]).1 + ((chs s fuel pos)[i]).2.2 = (if h' : i + 1 < (chs s fuel pos).length then ((chs s fuel pos)[i + 1]).1 else s.size)
  | 0, pos, _, _, i, h => by simp [chs] at h
  | fuel + 1, pos, hf, hps, i, h => by
    by_cases hp : pos < s.size
    · have hw := width_pos s pos hp
      have hfit := decode_fits s pos hp
      have ih := chs_ends s fuel (pos + (Utf8.decode s pos).2) (by omega) (by omega)
      simp only [chs, hp, if_true] at h ⊢
      cases i with
      | zero =>
        by_cases hl : 0 < (chs s fuel (pos + (Utf8.decode s pos).2)).length
        · have := chs_head s fuel _ hl
          simp [hl, this]
        · have hnil : chs s fuel (pos + (Utf8.decode s pos).2) = [] := List.eq_nil_of_length_eq_zero (by omega)
          have hend : ¬ (pos + (Utf8.decode s pos).2) < s.size := by
            intro hlt
            cases fuel with
            | zero => omega
            | succ f => simp [chs, hlt] at hnil
          simp [hnil]
          omega
      | succ i =>
        have := ih i (by simpa using h)
        simpa using this
    · simp [chs, hp] at h
theorem chars_ends (s : ByteArray) (i : Nat) (h : i < (chars s).length) :
    ((chars s)[i]).1 + ((chars s)[i]).2.2 = (if h' : i + 1 < (chars s).length then ((chars s)[i + 1]).1 else s.size) :=
  chs_ends s s.size 0 (by omega) (by omega) i h
/-- Each character is what is decoded at its place. -/
theorem chs_at (s : ByteArray) : ∀ (fuel pos : Nat) (c : Ch), c ∈ chs s fuel pos → pos ≤ c.1 ∧ c.1 < s.size ∧ c.2 = Utf8.decode s c.1
  | 0, pos, c, h => by simp [chs] at h
  | fuel + 1, pos, c, h => by
    by_cases hp : pos < s.size
    · simp only [chs, hp, if_true, List.mem_cons] at h
      rcases h with rfl | h
      · exact ⟨by simp, hp, rfl⟩
      · obtain ⟨h1, h2, h3⟩ := chs_at s fuel _ c h
        exact ⟨by omega, h2, h3⟩
    · simp [chs, hp] at h
theorem chars_at (s : ByteArray) (c : Ch) (h : c ∈ chars s) : c.1 < s.size ∧ c.2 = Utf8.decode s c.1 := (chs_at s _ _ c h).2
theorem chars_rune (s : ByteArray) (c : Ch) (h : c ∈ chars s) : c.2.1 ≤ 2147483647 := by
  rw [(chars_at s c h).2]; exact decode_le s c.1
theorem chars_width (s : ByteArray) (c : Ch) (h : c ∈ chars s) : 1 ≤ c.2.2 ∧ c.1 + c.2.2 ≤ s.size := by
  obtain ⟨h1, h2⟩ := chars_at s c h
  rw [h2]; exact ⟨width_pos s _ h1, decode_fits s _ h1⟩
theorem chs_len (s : ByteArray) : ∀ (fuel pos : Nat), pos ≤ s.size → (chs s fuel pos).length + pos ≤ s.size
  | 0, pos, h => by simp [chs]; exact h
  | fuel + 1, pos, h => by
    by_cases hp : pos < s.size
    · have hw := width_pos s pos hp
      have hfit := decode_fits s pos hp
      have := chs_len s fuel (pos + (Utf8.decode s pos).2) hfit
      simp [chs, hp]; omega
    · simp [chs, hp]; exact h
theorem chars_len (s : ByteArray) : (chars s).length ≤ s.size := by have := chs_len s s.size 0 (by omega); simpa [chars] using this

/-- What the cells of a list of characters hold: of all their code points and places, of the first k the rest. -/
def Holds4 (xs : List Value) (l : List Ch) (k : Nat) : Prop :=
  xs.length = l.length * 4 ∧ ∀ (i : Nat) (c : Ch), l[i]? = some c → xs[i * 4]? = some (.int .i32 c.2.1) ∧ xs[i * 4 + 1]? = some (.int .i64 c.1) ∧ (i < k → xs[i * 4 + 2]? = some (.int .i64 c.2.2) ∧ xs[i * 4 + 3]? = some (.bool (badB c)))
def raw (c : Ch) : List Value := [.int .i32 c.2.1, .int .i64 c.1, .int .i64 0, .bool false]
def raws (l : List Ch) : List Value := l.flatMap raw
theorem raws_len (l : List Ch) : (raws l).length = l.length * 4 := by
  induction l with
  | nil => rfl
  | cons a l ih => simp [raws, raw] at ih ⊢; omega
theorem raws_snoc (l : List Ch) (c : Ch) : raws (l ++ [c]) = raws l ++ raw c := by simp [raws]
theorem raws_get : ∀ (l : List Ch) (i : Nat) (c : Ch), l[i]? = some c → (raws l)[i * 4]? = some (.int .i32 c.2.1) ∧ (raws l)[i * 4 + 1]? = some (.int .i64 c.1)
  | [], i, c, h => by simp at h
  | a :: l, 0, c, h => by simp at h; subst h; simp [raws, raw]
  | a :: l, i + 1, c, h => by
    have ih := raws_get l i c (by simpa using h)
    have e : raws (a :: l) = raw a ++ raws l := by simp [raws]
    have hl : (raw a).length = 4 := rfl
    rw [e, List.getElem?_append_right (by omega), List.getElem?_append_right (by omega), hl, show (i + 1) * 4 - 4 = i * 4 by omega, show (i + 1) * 4 + 1 - 4 = i * 4 + 1 by omega]
    exact ih
theorem holds4_raws (l : List Ch) : Holds4 (raws l) l 0 := ⟨raws_len l, fun i c h => ⟨(raws_get l i c h).1, (raws_get l i c h).2, fun h0 => absurd h0 (by omega)⟩⟩
theorem holds4_step {xs : List Value} {l : List Ch} {k : Nat} {c : Ch} (h : Holds4 xs l k) (hk : l[k]? = some c) :
    Holds4 ((xs.set (k * 4 + 2) (.int .i64 c.2.2)).set (k * 4 + 3) (.bool (badB c))) l (k + 1) := by
  have hkl : k < l.length := (List.getElem?_eq_some_iff.1 hk).1
  refine ⟨by simpa using h.1, fun i d hd => ?_⟩
  have hlen := h.1
  obtain ⟨h1, h2, h3⟩ := h.2 i d hd
  refine ⟨?_, ?_, fun hi => ?_⟩
  · rw [List.getElem?_set_ne (by omega), List.getElem?_set_ne (by omega)]; exact h1
  · rw [List.getElem?_set_ne (by omega), List.getElem?_set_ne (by omega)]; exact h2
  · by_cases e : i = k
    · subst e
      obtain rfl : d = c := by rw [hk] at hd; exact (Option.some.inj hd).symm
      refine ⟨?_, ?_⟩
      · rw [List.getElem?_set_ne (by omega), List.getElem?_set_self (by omega)]
      · rw [List.getElem?_set_self (by simp; omega)]
    · obtain ⟨h4, h5⟩ := h3 (by omega)
      refine ⟨?_, ?_⟩
      · rw [List.getElem?_set_ne (by omega), List.getElem?_set_ne (by omega)]; exact h4
      · rw [List.getElem?_set_ne (by omega), List.getElem?_set_ne (by omega)]; exact h5
end
section
open Go
set_option linter.unusedVariables false

def bs (l : List UInt8) : ByteArray := ⟨l.toArray⟩
structure Tok where
  kind : Nat
  name : List UInt8
  text : List UInt8
  line : Nat
  col : Nat
structure Wr where
  code : Nat
  line : Nat
  col : Nat
  word : List UInt8
structure Mk where
  out : List Tok
  opn : List Tok
  run : List UInt8
  beg : Nat × Nat
  gap : Option (Nat × Nat)
  parts : Bool
namespace Mk
def zero : Mk := ⟨[], [], [], (0, 0), none, false⟩
def gather (m : Mk) (s : List UInt8) (p : Nat × Nat) : Mk := { m with run := m.run ++ s, beg := if m.run = [] then p else m.beg, parts := true }
def fill (m : Mk) : Mk := match m.gap with
  | none => m
  | some p => { m.gather [32] p with gap := none }
def endRun (m : Mk) : Mk := if m.run = [] then m else { m with out := m.out ++ [⟨6, [], m.run, m.beg.1, m.beg.2⟩], run := [] }
def put (m : Mk) (k : Nat) (name text : List UInt8) (p : Nat × Nat) : Mk := { m.endRun with out := m.endRun.out ++ [⟨k, name, text, p.1, p.2⟩] }
def within (m : Mk) (k : Nat) (name : List UInt8) (p : Nat × Nat) : Mk := { m.fill.put k name [] p with parts := true }
def blank (m : Mk) (p : Nat × Nat) : Mk := if m.parts && m.gap.isNone then { m with gap := some p } else m
def endPara (m : Mk) : Except Wr Mk := match m.opn.getLast? with
  | some t => .error ⟨45, t.line, t.col, t.name⟩
  | none => .ok { m.endRun with gap := none, parts := false }
/-- A token that is a whole line. -/
def whole (m : Mk) (k : Nat) (name text : List UInt8) (n : Nat) : Except Wr Mk := match m.endPara with
  | .error e => .error e
  | .ok m' => .ok (m'.put k name text (n, 1))
end Mk
def isL (c : UInt8) : Bool := 97 ≤ c && c ≤ 122
def isB (c : UInt8) : Bool := c == 32 || c == 9
def named (name rest ends : List UInt8) : Bool := name != [] && name.length ≤ 12 && (match rest with | [] => true | c :: _ => ends.contains c)
/-- A line and what stands behind its end. -/
def cutNL (l : List UInt8) : List UInt8 × List UInt8 := (l.takeWhile (· != 10), (l.dropWhile (· != 10)).drop 1)
def chop (l : List UInt8) : List UInt8 := if l.getLast? = some 13 then l.dropLast else l
def linesF : Nat → List UInt8 → List (List UInt8)
  | 0, _ => []
  | f + 1, l => if l = [] then [] else chop (cutNL l).1 :: linesF f (cutNL l).2
def lines (l : List UInt8) : List (List UInt8) := linesF l.length l
end
section
open Go Go.RowKit
set_option linter.unusedVariables false

structure Chg where
  on : Int
  off : Int
  col : Int
structure Lk where
  att : Int
  col : Int
structure Sty where
  nm : List UInt8
  pr : List UInt8
  ch : Chg
def none0 : Chg := ⟨0, 0, -1⟩
def zeroC : Chg := ⟨0, 0, 0⟩
def zeroS : Sty := ⟨[], [], zeroC⟩
def overI (c d : Int) : Int := if d = -1 then c else d
def thenC (a b : Chg) : Chg := ⟨bits .or .i64 (bits .andNot .i64 a.on b.off) b.on, bits .or .i64 (bits .andNot .i64 a.off b.on) b.off, overI a.col b.col⟩
def applyL (l : Lk) (c : Chg) : Lk := ⟨bits .andNot .i64 (bits .or .i64 l.att c.on) c.off, overI l.col c.col⟩
def nameB (l : List UInt8) : Bool := l.all isL && !l.isEmpty && decide (l.length ≤ 12)

/-- The first style of a name. -/
def fndF (x : List UInt8) : List Sty → Nat → Option Nat
  | [], _ => none
  | s :: r, k => if s.nm = x then some k else fndF x r (k + 1)
def fnd (l : List Sty) (x : List UInt8) : Option Nat := fndF x l 0
theorem fndF_some {x : List UInt8} : ∀ {l : List Sty} {k j : Nat}, fndF x l k = some j → k ≤ j ∧ ∃ h : j - k < l.length, (l[j - k]).nm = x ∧ ∀ i (hi : i < j - k), (l[i]'(by omega)).nm ≠ x
  | [], k, j, h => by simp [fndF] at h
  | s :: r, k, j, h => by
    by_cases hs : s.nm = x
    · simp [fndF, hs] at h
      subst h
      exact ⟨Nat.le_refl _, by simp, by simpa using hs, fun i hi => by omega⟩
    · simp [fndF, hs] at h
      obtain ⟨h1, h2, h3, h4⟩ := fndF_some h
      have e : j - k = (j - (k + 1)) + 1 := by omega
      refine ⟨by omega, by simp; omega, ?_, ?_⟩
      · simp only [e, List.getElem_cons_succ]; exact h3
      · intro i hi
        cases i with
        | zero => simpa using hs
        | succ i => simpa using h4 i (by omega)
theorem fndF_none {x : List UInt8} : ∀ {l : List Sty} {k : Nat}, fndF x l k = none ↔ ∀ s ∈ l, s.nm ≠ x
  | [], k => by simp [fndF]
  | s :: r, k => by
    by_cases hs : s.nm = x
    · simp [fndF, hs]
    · simp [fndF, hs, fndF_none]
theorem fnd_some {l : List Sty} {x : List UInt8} {j : Nat} (h : fnd l x = some j) : ∃ hj : j < l.length, (l[j]).nm = x ∧ ∀ i (hi : i < j), (l[i]'(by omega)).nm ≠ x := by
  obtain ⟨_, h2, h3, h4⟩ := fndF_some h
  exact ⟨by simpa using h2, by simpa using h3, by simpa using h4⟩
theorem fnd_none {l : List Sty} {x : List UInt8} : fnd l x = none ↔ ∀ s ∈ l, s.nm ≠ x := fndF_none
theorem fnd_here {l : List Sty} {x : List UInt8} {i : Nat} (hi : i < l.length) (h : (l[i]).nm = x) : ∃ j, fnd l x = some j ∧ j ≤ i := by
  cases e : fnd l x with
  | none => exact absurd h (fnd_none.1 e _ (List.getElem_mem hi))
  | some j =>
    obtain ⟨hj, h1, h2⟩ := fnd_some e
    refine ⟨j, rfl, ?_⟩
    rcases Nat.lt_or_ge i j with h3 | h3
    · exact absurd h (h2 i h3)
    · exact h3
theorem fndF_step {x : List UInt8} {l : List Sty} {k : Nat} (hk : k < l.length) : fndF x (l.drop k) k = if (l[k]).nm = x then some k else fndF x (l.drop (k + 1)) (k + 1) := by
  rw [List.drop_eq_getElem_cons hk]; rfl
theorem fndF_end {x : List UInt8} {l : List Sty} {k : Nat} (hk : l.length ≤ k) : fndF x (l.drop k) k = none := by
  rw [List.drop_eq_nil_of_le hk]; rfl

/-- What is wrong with a style by itself, but for its name. -/
def ownE (c : Chg) : Nat :=
  if c.on < 0 ∨ c.off < 0 ∨ 127 < c.on ∨ 127 < c.off ∨ ¬ bits .and .i64 c.on c.off = 0 then 62
  else if c.col < -1 ∨ 15 < c.col then 63 else 0
/-- The first of some numbers at which something is wrong, and what. -/
def fb (f : Nat → Nat) : Nat → Nat → Option (Nat × Nat)
  | 0, _ => none
  | n + 1, k => if f k = 0 then fb f n (k + 1) else some (k, f k)
theorem fb_none {f : Nat → Nat} : ∀ {n k : Nat}, fb f n k = none ↔ ∀ i, k ≤ i → i < k + n → f i = 0
  | 0, k => by simp [fb]; omega
  | n + 1, k => by
    by_cases h : f k = 0
    · simp only [fb, h, if_true]
      rw [fb_none]
      constructor
      · intro hh i h1 h2
        by_cases e : i = k
        · subst e; exact h
        · exact hh i (by omega) (by omega)
      · intro hh i h1 h2; exact hh i (by omega) (by omega)
    · simp only [fb, h, if_false]
      constructor
      · intro hh; cases hh
      · intro hh; exact absurd (hh k (Nat.le_refl _) (by omega)) h
def gets (l : List Sty) (i : Nat) : Sty := l.getD i zeroS
theorem gets_eq {l : List Sty} {i : Nat} (h : i < l.length) : gets l i = l[i] := by simp [gets, h]
def ck1 (l : List Sty) (i : Nat) : Nat :=
  if nameB (gets l i).nm = false then 60 else if (fnd l (gets l i).nm).getD 0 < i then 61 else ownE (gets l i).ch
/-- A style's parent, if it has one that there is. -/
def upS (l : List Sty) (i : Nat) : Option Nat := if (gets l i).pr = [] then none else fnd l (gets l i).pr
/-- A style and its parents, itself ahead: at most so many. -/
def path (l : List Sty) : Nat → Nat → Option (List Nat)
  | 0, _ => none
  | f + 1, i => match upS l i with
    | none => some [i]
    | some j => (path l f j).map (i :: ·)
def ck2 (l : List Sty) (i : Nat) : Nat :=
  if ¬ (gets l i).pr = [] ∧ fnd l (gets l i).pr = none then 64 else if path l 8 i = none then 65 else 0
def checkM (l : List Sty) : Nat × Nat :=
  if 64 < l.length then (0, 2) else match fb (ck1 l) l.length 0 with
  | some p => p
  | none => match fb (ck2 l) l.length 0 with
    | some p => p
    | none => (0, 0)
def wholeP (l : List Sty) (p : List Nat) : Chg := p.foldr (fun k c => thenC c (gets l k).ch) none0
def wholeI (l : List Sty) (i : Nat) : Chg := wholeP l ((path l 8 i).getD [])
def wholeM (l : List Sty) (x : List UInt8) : Chg × Nat :=
  if (checkM l).2 ≠ 0 then (zeroC, (checkM l).2) else match fnd l x with
  | none => (zeroC, 66)
  | some i => (wholeI l i, 0)
theorem upS_lt {l : List Sty} {i j : Nat} (h : upS l i = some j) : j < l.length := by
  unfold upS at h
  split at h
  · cases h
  · exact (fnd_some h).1
theorem path_lt {l : List Sty} : ∀ {f i : Nat} {p : List Nat}, path l f i = some p → i < l.length → ∀ k ∈ p, k < l.length
  | 0, i, p, h, hi => by simp [path] at h
  | f + 1, i, p, h, hi => by
    unfold path at h
    cases e : upS l i with
    | none => rw [e] at h; simp at h; subst h; simpa using hi
    | some j =>
      rw [e] at h
      obtain ⟨q, hq, rfl⟩ := Option.map_eq_some_iff.1 h
      intro k hk
      rcases List.mem_cons.1 hk with rfl | hk
      · exact hi
      · exact path_lt hq (upS_lt e) k hk
theorem path_len {l : List Sty} : ∀ {f i : Nat} {p : List Nat}, path l f i = some p → p.length ≤ f
  | 0, i, p, h => by simp [path] at h
  | f + 1, i, p, h => by
    unfold path at h
    cases e : upS l i with
    | none => rw [e] at h; simp at h; subst h; simp
    | some j =>
      rw [e] at h
      obtain ⟨q, hq, rfl⟩ := Option.map_eq_some_iff.1 h
      have := path_len hq
      simp; omega
/-- Of a sheet that is taken. -/
structure Good (l : List Sty) : Prop where
  few : l.length ≤ 64
  own : ∀ i, i < l.length → ck1 l i = 0
  up : ∀ i, i < l.length → ck2 l i = 0
theorem checkM_good {l : List Sty} : (checkM l).2 = 0 ↔ Good l := by
  unfold checkM
  have nz : ∀ (f : Nat → Nat) (n k : Nat) (p : Nat × Nat), fb f n k = some p → p.2 ≠ 0 := by
    intro f n
    induction n with
    | zero => intro k p h; simp [fb] at h
    | succ n ih =>
      intro k p h
      by_cases e : f k = 0
      · simp only [fb, e, if_true] at h; exact ih _ _ h
      · simp only [fb, e, if_false] at h; cases h; exact e
  by_cases h64 : 64 < l.length
  · rw [if_pos h64]
    exact ⟨fun h => by simp at h, fun h => by have := h.few; omega⟩
  · rw [if_neg h64]
    cases e1 : fb (ck1 l) l.length 0 with
    | some p =>
      simp only
      refine ⟨fun h => absurd h (nz _ _ _ _ e1), fun h => ?_⟩
      have : fb (ck1 l) l.length 0 = none := fb_none.2 (fun i _ hi => h.own i (by omega))
      rw [this] at e1; cases e1
    | none =>
      have o := fb_none.1 e1
      cases e2 : fb (ck2 l) l.length 0 with
      | some p =>
        simp only
        refine ⟨fun h => absurd h (nz _ _ _ _ e2), fun h => ?_⟩
        have : fb (ck2 l) l.length 0 = none := fb_none.2 (fun i _ hi => h.up i (by omega))
        rw [this] at e2; cases e2
      | none =>
        have u := fb_none.1 e2
        exact ⟨fun _ => ⟨by omega, fun i hi => o i (by omega) (by omega), fun i hi => u i (by omega) (by omega)⟩, fun _ => rfl⟩
theorem Good.path {l : List Sty} (h : Good l) {i : Nat} (hi : i < l.length) : ∃ p, path l 8 i = some p := by
  have := h.up i hi
  unfold ck2 at this
  split at this
  · cases this
  · split at this
    · cases this
    · rename_i h2
      cases e : Go.Proofs.YtjohhahfpgfjdaaGreatDoor.S6.path l 8 i with
      | none => exact absurd e h2
      | some p => exact ⟨p, rfl⟩
end
section
open Go.RowKit
set_option linter.unusedVariables false

def chgVal (c : Chg) : Value := .agg #[.int .i64 c.on, .int .i64 c.off, .int .i64 c.col]
def lkVal (l : Lk) : Value := .agg #[.int .i64 l.att, .int .i64 l.col]
def styRow (s : Sty) : List Value := [.string (bs s.nm), .string (bs s.pr), .int .i64 s.ch.on, .int .i64 s.ch.off, .int .i64 s.ch.col]
theorem infoSty : (Tryz.prog.info? 66).map (fun i => (i.zero, i.size, i.bytes)) = some (some (.agg #[.string .empty, .string .empty, .int .i64 0, .int .i64 0, .int .i64 0]), 5, 56) := by kernel_rfl
/-- The slice v reads as the styles l. -/
def Sh (w : World) (v : Value) (l : List Sty) : Prop :=
  ∃ (pa : Option Addr) (cap : Nat), v = .slice pa l.length cap ∧ l.length ≤ cap ∧ cap ≤ maxLen ∧
    ∀ i (hi : i < l.length), ∃ b off, pa = some ⟨b, off, none⟩ ∧ ∀ k u, (styRow l[i])[k]? = some u → w.cell? ⟨b, off + i * 5 + k, none⟩ = some u
theorem Sh.below {w w' : World} {v : Value} {l : List Sty} (h : Sh w v l) (hb : Below w.heap.size w w') : Sh w' v l := by
  obtain ⟨pa, cap, h1, h2, h3, h4⟩ := h
  refine ⟨pa, cap, h1, h2, h3, fun i hi => ?_⟩
  obtain ⟨b, off, e, hc⟩ := h4 i hi
  exact ⟨b, off, e, fun k u hk => (hb.cell (p := ⟨b, off + i * 5 + k, none⟩) (cell_in (hc k u hk))).trans (hc k u hk)⟩
theorem Sh.form {w : World} {v : Value} {l : List Sty} (h : Sh w v l) : ∃ (pa : Option Addr) (cap : Nat), v = .slice pa l.length cap ∧ l.length ≤ cap ∧ cap ≤ maxLen := by
  obtain ⟨pa, cap, h1, h2, h3, _⟩ := h
  exact ⟨pa, cap, h1, h2, h3⟩
theorem Sh.cells {w : World} {pa : Option Addr} {n cap : Nat} {l : List Sty} (h : Sh w (.slice pa n cap) l) {i : Nat} (hi : i < l.length) : ∃ b off, pa = some ⟨b, off, none⟩ ∧
    w.cell? ⟨b, off + i * 5, none⟩ = some (.string (bs (gets l i).nm)) ∧ w.cell? ⟨b, off + i * 5 + 1, none⟩ = some (.string (bs (gets l i).pr)) ∧
    w.cell? ⟨b, off + i * 5 + 2, none⟩ = some (.int .i64 (gets l i).ch.on) ∧ w.cell? ⟨b, off + i * 5 + 3, none⟩ = some (.int .i64 (gets l i).ch.off) ∧ w.cell? ⟨b, off + i * 5 + 4, none⟩ = some (.int .i64 (gets l i).ch.col) := by
  obtain ⟨pa, cap, h1, _, _, h4⟩ := h
  cases h1
  obtain ⟨b, off, e, hc⟩ := h4 i hi
  rw [gets_eq hi]
  exact ⟨b, off, e, hc 0 _ rfl, hc 1 _ rfl, hc 2 _ rfl, hc 3 _ rfl, hc 4 _ rfl⟩
def fndV (o : Option Nat) : Value := .tuple #[.int .i64 ((o.getD 0 : Nat) : Int), .bool o.isSome]
theorem bs_eq {a b : List UInt8} : ((bs a).toList == (bs b).toList) = decide (a = b) := by
  rw [ByteArray.toList_eq, ByteArray.toList_eq]
  show (a.toArray.toList == b.toArray.toList) = _
  simp
  rw [Bool.eq_iff_iff]; simp

set_option maxRecDepth 100000 in
set_option maxHeartbeats 1000000 in
theorem find_pro (l : List Sty) (x : List UInt8) (v : Value) (w : World) (h : Sh w v l) :
    Calls Tryz.prog 73 #[v, .string (bs x)] w fun e w' => e = .returned (fndV (fnd l x)) ∧ w = w' := by
  obtain ⟨pa, cap, rfl, hc1, hc2⟩ := h.form
  unfold maxLen at hc2
  have HH := Lib.hid h
  clear h
  go_enter Tryz.func73, Tryz.ntmps73
  go_wp2_with fail
  go_loop [6, 9] (fun _ i => ∃ k : Nat, k ≤ l.length ∧ i = .int .i64 k ∧ Hid (fndF x (l.drop k) k = fnd l x)) (fun _ i => l.length - (intOf i).toNat)
  case atStart => exact ⟨0, Nat.zero_le _, rfl, rfl⟩
  case round =>
    obtain ⟨k, hk, rfl, HF⟩ := hrel
    by_cases hlt : k < l.length
    · obtain ⟨b, off, rfl, c0, c1, c2, c3, c4⟩ := HH.out.cells hlt
      have hs := fndF_step (x := x) hlt
      by_cases he : (l[k]).nm = x
      · rw [if_pos he] at hs
        have hz : fnd l x = some k := HF.out.symm.trans hs
        have t1 : ((bs (gets l k).nm).toList == (bs x).toList) = true := by rw [bs_eq, gets_eq hlt]; simpa using he
        have HZ := Lib.hid hz
        clear hs he hz
        go_wp2_with fail
        go_ret2
        rw [HZ.out]
        exact ⟨rfl, rfl⟩
      · rw [if_neg he] at hs
        have hz := hs.symm.trans HF.out
        have t1 : ((bs (gets l k).nm).toList == (bs x).toList) = false := by rw [bs_eq, gets_eq hlt]; simpa using he
        have HZ := Lib.hid hz
        clear hs he hz
        go_wp2_with fail
        go_round
        case rel => exact ⟨k + 1, by omega, by go_num, HZ.out⟩
        case measure => simp [intOf]; omega
    · have hz : fnd l x = none := by rw [← HF.out]; exact fndF_end (by omega)
      have HZ := Lib.hid hz
      clear hz
      go_wp2_with fail
      go_ret2
      rw [HZ.out]
      exact ⟨rfl, rfl⟩
end
section
open Go.RowKit
set_option linter.unusedVariables false

def styRows (l : List Sty) : List Value := l.flatMap styRow
theorem styRows_get : ∀ (l : List Sty) (i : Nat) (hi : i < l.length) (k : Nat) (u : Value), (styRow l[i])[k]? = some u → (styRows l)[i * 5 + k]? = some u
  | [], i, hi, k, u, h => by simp at hi
  | a :: l, 0, hi, k, u, h => by
    have hk : k < (styRow a).length := (List.getElem?_eq_some_iff.1 h).1
    have e : styRows (a :: l) = styRow a ++ styRows l := by simp [styRows]
    rw [e, Nat.zero_mul, Nat.zero_add, List.getElem?_append_left hk]
    exact h
  | a :: l, i + 1, hi, k, u, h => by
    have e : styRows (a :: l) = styRow a ++ styRows l := by simp [styRows]
    have hl : (styRow a).length = 5 := rfl
    rw [e, List.getElem?_append_right (by omega), hl, show (i + 1) * 5 + k - 5 = i * 5 + k by omega]
    exact styRows_get l i (by simpa using hi) k u (by simpa using h)
theorem Sh.own {w : World} {base : Nat} {v : Value} {l : List Sty} (h : w.ownsRow base 66 5 v l.length (styRows l)) : Sh w v l := by
  rcases h.2 with ⟨rfl, h0⟩ | ⟨g, cap, cur, rfl, hb, hg, h1, h2, h3, h4⟩
  · have : l = [] := List.eq_nil_of_length_eq_zero h0
    subst this
    exact ⟨none, 0, rfl, Nat.le_refl _, Nat.zero_le _, fun i hi => absurd hi (by simp)⟩
  · refine ⟨_, cap, rfl, h1, h2, fun i hi => ⟨g, 0, rfl, fun k u hk => ?_⟩⟩
    have hk5 : k < 5 := by have := (List.getElem?_eq_some_iff.1 hk).1; simpa [styRow] using this
    have := World.ownsRow.cellAt h (i * 5 + k) (by omega)
    rw [Nat.zero_add, this]
    exact styRows_get l i hi k u hk
def baseL : List Sty := [⟨[98], [], ⟨1, 0, -1⟩⟩, ⟨[105], [], ⟨2, 0, -1⟩⟩, ⟨[117], [], ⟨4, 0, -1⟩⟩, ⟨[115], [], ⟨8, 0, -1⟩⟩, ⟨[109], [], ⟨16, 0, -1⟩⟩, ⟨[104], [], ⟨5, 0, -1⟩⟩]
end
section
open Go.RowKit
set_option linter.unusedVariables false

end
section
open Go Go.RowKit
set_option linter.unusedVariables false

def bv (a : Int) : BitVec 64 := BitVec.ofInt 64 a
def In64 (a : Int) : Prop := -9223372036854775808 ≤ a ∧ a ≤ 9223372036854775807
theorem wrap_in (n : Int) : In64 (IntKind.i64.wrap n) := by
  rw [IntKind.wrap_i64]; unfold In64; omega
theorem bv_wrap (r : BitVec 64) : bv (IntKind.i64.wrap (r.toNat : Int)) = r := by
  apply BitVec.eq_of_toNat_eq
  have h := r.isLt
  unfold bv
  rw [BitVec.toNat_ofInt, IntKind.wrap_i64]
  omega
theorem bv_inj {a b : Int} (ha : In64 a) (hb : In64 b) (h : bv a = bv b) : a = b := by
  have h2 := congrArg BitVec.toNat h
  unfold bv at h2
  rw [BitVec.toNat_ofInt, BitVec.toNat_ofInt] at h2
  unfold In64 at ha hb
  omega
theorem bits_in (op : BinOp) (a b : Int) : In64 (bits op .i64 a b) := by unfold bits; exact wrap_in _
theorem bv_or (a b : Int) : bv (bits .or .i64 a b) = bv a ||| bv b := bv_wrap _
theorem bv_andNot (a b : Int) : bv (bits .andNot .i64 a b) = bv a &&& ~~~bv b := bv_wrap _
theorem bv_zero : bv 0 = 0#64 := rfl
/-- What holds of all single bits holds of all 64. -/
theorem bv_ext3 {x y : BitVec 64} (h : ∀ i (hi : i < 64), x[i] = y[i]) : x = y := BitVec.eq_of_getElem_eq h
def Apart (c : Chg) : Prop := bv c.on &&& bv c.off = 0
/-- The two ways to ask whether a change's bits are among the seven. -/
theorem mask_ok {a b : Int} (ha : In64 a) (hb : In64 b) : bits .andNot .i64 (bits .or .i64 a b) 127 = 0 ↔ 0 ≤ a ∧ a ≤ 127 ∧ 0 ≤ b ∧ b ≤ 127 := by
  have one : ∀ x : Int, In64 x → (bv x &&& ~~~bv 127 = 0 ↔ 0 ≤ x ∧ x ≤ 127) := by
    intro x hx
    constructor
    · intro h
      have h2 : bv x = bv x &&& bv 127 := by
        refine bv_ext3 fun i hi => ?_
        have h3 := congrArg (fun y : BitVec 64 => y[i]) h
        simp only [BitVec.getElem_and, BitVec.getElem_not] at h3 ⊢
        generalize (bv x)[i] = u at *
        generalize (bv 127)[i] = v at *
        revert h3
        cases u <;> cases v <;> simp
      have h4 : (bv x).toNat ≤ 127 := by
        have e : (bv x).toNat = (bv x).toNat &&& 127 := by
          have := congrArg BitVec.toNat h2
          rw [BitVec.toNat_and] at this
          exact this
        rw [e]
        exact Nat.and_le_right
      unfold bv at h4
      rw [BitVec.toNat_ofInt] at h4
      unfold In64 at hx
      omega
    · rintro ⟨h1, h2⟩
      obtain ⟨n, rfl⟩ : ∃ n : Nat, x = n := ⟨x.toNat, by omega⟩
      have hn : n < 128 := by omega
      have e : bv ((n : Nat) : Int) = BitVec.ofNat 64 n := by unfold bv; rw [BitVec.ofInt_natCast]
      rw [e]
      revert hn
      revert n
      have key : ∀ n, n < 128 → BitVec.ofNat 64 n &&& ~~~bv 127 = 0 := by decide +kernel
      intro n _ _ _ _ hn
      exact key n hn
  have split : bits .andNot .i64 (bits .or .i64 a b) 127 = 0 ↔ bv a &&& ~~~bv 127 = 0 ∧ bv b &&& ~~~bv 127 = 0 := by
    constructor
    · intro h
      have h2 := congrArg bv h
      rw [bv_andNot, bv_or, bv_zero] at h2
      constructor
      · refine bv_ext3 fun i hi => ?_
        have h3 := congrArg (fun y : BitVec 64 => y[i]) h2
        simp only [BitVec.getElem_and, BitVec.getElem_or, BitVec.getElem_not] at h3 ⊢
        generalize (bv a)[i] = u at *
        generalize (bv b)[i] = w at *
        generalize (bv 127)[i] = v at *
        revert h3
        cases u <;> cases v <;> cases w <;> simp
      · refine bv_ext3 fun i hi => ?_
        have h3 := congrArg (fun y : BitVec 64 => y[i]) h2
        simp only [BitVec.getElem_and, BitVec.getElem_or, BitVec.getElem_not] at h3 ⊢
        generalize (bv a)[i] = u at *
        generalize (bv b)[i] = w at *
        generalize (bv 127)[i] = v at *
        revert h3
        cases u <;> cases v <;> cases w <;> simp
    · rintro ⟨h1, h2⟩
      refine bv_inj (bits_in _ _ _) (by unfold In64; omega) ?_
      rw [bv_andNot, bv_or, bv_zero]
      refine bv_ext3 fun i hi => ?_
      have h3 := congrArg (fun y : BitVec 64 => y[i]) h1
      have h4 := congrArg (fun y : BitVec 64 => y[i]) h2
      simp only [BitVec.getElem_and, BitVec.getElem_or, BitVec.getElem_not] at h3 h4 ⊢
      generalize (bv a)[i] = u at *
      generalize (bv b)[i] = w at *
      generalize (bv 127)[i] = v at *
      revert h3 h4
      cases u <;> cases v <;> cases w <;> simp
  rw [split, one a ha, one b hb]
  constructor
  · rintro ⟨⟨h1, h2⟩, h3, h4⟩; exact ⟨h1, h2, h3, h4⟩
  · rintro ⟨h1, h2, h3, h4⟩; exact ⟨⟨h1, h2⟩, h3, h4⟩
end
section
open Go Go.RowKit
set_option linter.unusedVariables false

def attrW : List (List UInt8) := [[98, 111, 108, 100], [105, 116, 97, 108, 105, 99], [117, 110, 100, 101, 114], [115, 116, 114, 105, 107, 101], [109, 111, 110, 111], [115, 109, 97, 108, 108], [114, 101, 118, 101, 114, 115, 101]]
/-- Which attribute's word it is. -/
def idxW (w : List UInt8) : List (List UInt8) → Nat → Option Nat
  | [], _ => none
  | x :: r, k => if x = w then some k else idxW w r (k + 1)
def bitOf (w : List UInt8) : Int := match idxW w attrW 0 with
  | none => 0
  | some k => ((2 ^ k : Nat) : Int)
def taken (c : Chg) (w : List UInt8) : Bool := bitOf w != 0 && bits .and .i64 (bits .or .i64 c.on c.off) (bitOf w) == 0
end
section
open Go Go.RowKit
set_option linter.unusedVariables false

theorem nofInt_i64 (a : Nat) (ha : a < 9223372036854775808) : (BitVec.ofInt 64 (a : Int)).toNat = a := by
  rw [BitVec.ofInt_natCast, BitVec.toNat_ofNat]; exact Nat.mod_eq_of_lt (by omega)
theorem nor (a b : Nat) (ha : a < 9223372036854775808) (hb : b < 9223372036854775808) : bits .or .i64 (a : Int) (b : Int) = ((a ||| b : Nat) : Int) := by
  have hx : a ||| b < 2 ^ 63 := Nat.or_lt_two_pow (by omega) (by omega)
  show IntKind.i64.wrap ((BitVec.ofInt 64 (a : Int) ||| BitVec.ofInt 64 (b : Int)).toNat : Int) = _
  rw [BitVec.toNat_or, nofInt_i64 a ha, nofInt_i64 b hb, IntKind.wrap_i64]
  omega

end
section
open Go.RowKit
set_option linter.unusedVariables false

structure Tabs (w : World) : Prop where
  pow : Lib.TabIs Tryz.prog w "internal/strconv.uint64pow10" .u64 Lib.pow10Tab
theorem g_pow : Tryz.prog.globalNamed "internal/strconv.uint64pow10" = some 2 := by kernel_rfl
theorem Tabs.below {B : Nat} {w w' : World} (h : Tabs w) (hb : Below B w w') (hB : w.heap.size ≤ B) : Tabs w' := ⟨Joins.tab_stays g_pow h.pow hb hB⟩
theorem Tabs.at {w w' : World} (h : Tabs w) (hb : Below w.heap.size w w') : Tabs w' := h.below hb (Nat.le_refl _)
theorem Tabs.drewN {w : World} (h : Tabs w) (n : Nat) : Tabs (w.drewN n) := h.at ⟨rfl, rfl, rfl, Nat.le_refl _, fun _ _ => rfl⟩

theorem zeroSet : ∀ w, (zeroValue 208).run Tryz.prog w = .ok (.agg (Array.replicate 256 (.bool false))) w := fun w => by kernel_rfl
theorem infoSet : (Tryz.prog.info? 208).map (·.size) = some 256 := by kernel_rfl
theorem ascii_cut {cs : List UInt8} (h : cs.all (fun b => b.toNat < 128) = true) : ∀ (j : Nat) b, (bs cs).data.toList[j]? = some b → b.toNat < 128 := by
  intro j b hb
  have : b ∈ cs := List.mem_of_getElem? (by simpa [bs] using hb)
  have := List.all_eq_true.1 h b this
  simpa using this
theorem trim_pro (l cs : List UInt8) (w : World) (hl : l.length ≤ 9223372036854775807) (hc : cs.length < 4294967281) (ha : cs.all (fun b => b.toNat < 128) = true) :
    Calls Tryz.prog 106 #[.string (bs l), .string (bs cs)] w (Says (.string (bs (Lib.trimS l cs))) w) :=
  Any.strings_Trim_ascii Tryz.lays160 zeroSet infoSet (bs l) (bs cs) w (by show l.toArray.size ≤ _; simpa using hl) (by show cs.toArray.size < _; simpa using hc) (ascii_cut ha)
def azL : List UInt8 := [97, 98, 99, 100, 101, 102, 103, 104, 105, 106, 107, 108, 109, 110, 111, 112, 113, 114, 115, 116, 117, 118, 119, 120, 121, 122]
theorem az_is (c : UInt8) : azL.contains c = isL c := by
  have key : ∀ n, n < 256 → azL.contains (UInt8.ofNat n) = isL (UInt8.ofNat n) := by decide +kernel
  have := key c.toNat (UInt8.toNat_lt c)
  simpa using this
theorem drop_nil {p : UInt8 → Bool} : ∀ l : List UInt8, l.dropWhile p = [] ↔ l.all p = true
  | [] => by simp
  | a :: l => by
    by_cases h : p a = true
    · simp only [List.dropWhile_cons, h, if_true, List.all_cons, Bool.true_and]; exact drop_nil l
    · simp only [List.dropWhile_cons, h, List.all_cons]; simp
theorem drop_head {p : UInt8 → Bool} {l r : List UInt8} {a : UInt8} (h : l.dropWhile p = a :: r) : p a = false := by
  induction l with
  | nil => simp at h
  | cons b l ih =>
    by_cases hb : p b = true
    · rw [List.dropWhile_cons, if_pos hb] at h; exact ih h
    · rw [List.dropWhile_cons, if_neg hb] at h
      injection h with h1 h2
      subst h1
      simpa using hb
theorem trim_nil (l : List UInt8) : Lib.trimS l azL = [] ↔ l.all isL = true := by
  have e : (fun c => azL.contains c) = isL := funext az_is
  have hr : Lib.trimRightS l azL = (l.reverse.dropWhile isL).reverse := by unfold Lib.trimRightS; rw [← e]
  have hl : ∀ r, Lib.trimLeftS r azL = r.dropWhile isL := fun r => by unfold Lib.trimLeftS; rw [← e]
  unfold Lib.trimS
  rw [hl, hr, drop_nil, List.all_reverse]
  cases h : l.reverse.dropWhile isL with
  | nil =>
    have h2 := (drop_nil _).1 h
    rw [List.all_reverse] at h2
    simp [h2]
  | cons a r =>
    have ha := drop_head h
    have h2 : ¬ l.all isL = true := by
      intro h3
      have h4 := (drop_nil l.reverse).2 (by rw [List.all_reverse]; exact h3)
      rw [h4] at h; cases h
    simp only [List.all_cons, ha, Bool.false_and]
    exact ⟨fun h => absurd h (by decide), fun h => absurd h h2⟩
theorem bs_len (l : List UInt8) : (bs l).size = l.length := by show (l.toArray).size = _; simp
theorem bs_toList (l : List UInt8) : (bs l).toList = l := by rw [ByteArray.toList_eq]; show l.toArray.toList = l; simp

set_option maxRecDepth 100000 in
set_option maxHeartbeats 1000000 in
theorem isName_pro (l : List UInt8) (w : World) (hl : l.length ≤ 9223372036854775807) :
    Calls Tryz.prog 74 #[.string (bs l)] w (Says (.bool (nameB l)) w) := by
  have hz := bs_len l
  have ht := bs_toList l
  by_cases h0 : l = []
  · subst h0
    go_enter Tryz.func74, Tryz.ntmps74
    go_wp2_with fail
    go_ret
    exact ⟨rfl, Below.refl _ _⟩
  · have ne : l.isEmpty = false := by cases l with | nil => exact absurd rfl h0 | cons a r => rfl
    by_cases h12 : l.length ≤ 12
    · obtain ⟨r, hr⟩ : ∃ r, Lib.trimS l azL = r := ⟨_, rfl⟩
      have HT := Lib.hid (trim_pro l azL w hl (by decide) (by decide))
      rw [hr] at HT
      have hn := trim_nil l
      rw [hr] at hn
      have hy := bs_toList r
      have h12' : (l.length : Int) ≤ 12 := by omega
      by_cases he : r = []
      · have HB := Lib.hid (show nameB l = true by unfold nameB; rw [hn.1 he, ne]; simp [h12])
        subst he
        clear hn hr
        go_enter Tryz.func74, Tryz.ntmps74
        go_wp2_with fail
        refine HT.out.mono ?_
        rintro e w1 ⟨rfl, hb⟩
        have HB1 := Lib.hid hb
        clear hb
        go_wp2_with fail
        go_ret
        rw [HB.out]
        exact ⟨rfl, HB1.out⟩
      · have HB := Lib.hid (show nameB l = false by
          unfold nameB
          cases h : l.all isL with
          | true => exact absurd (hn.2 h) he
          | false => rfl)
        have hre : r.isEmpty = false := by cases r with | nil => exact absurd rfl he | cons a r => rfl
        clear hn hr
        go_enter Tryz.func74, Tryz.ntmps74
        go_wp2_with fail
        refine HT.out.mono ?_
        rintro e w1 ⟨rfl, hb⟩
        have HB1 := Lib.hid hb
        clear hb
        go_wp2_with fail
        go_ret
        rw [HB.out]
        exact ⟨rfl, HB1.out⟩
    · have HB := Lib.hid (show nameB l = false by unfold nameB; rw [ne]; simp [h12])
      have h12' : decide ((l.length : Int) ≤ 12) = false := by simp; omega
      clear h12
      go_enter Tryz.func74, Tryz.ntmps74
      go_wp2_with fail
      go_ret
      rw [HB.out]
      exact ⟨rfl, Below.refl _ _⟩
end
section
open Go.RowKit
set_option linter.unusedVariables false

/-- What a style's numbers and texts may be, as they come in. -/
def FitS (s : Sty) : Prop := s.nm.length ≤ 9223372036854775807 ∧ s.pr.length ≤ 9223372036854775807 ∧ In64 s.ch.on ∧ In64 s.ch.off ∧ In64 s.ch.col
def Fit (l : List Sty) : Prop := ∀ s ∈ l, FitS s
theorem Fit.at {l : List Sty} (h : Fit l) {i : Nat} (hi : i < l.length) : FitS (gets l i) := by rw [gets_eq hi]; exact h _ (List.getElem_mem hi)
theorem ownE_mask {c : Chg} (h1 : In64 c.on) (h2 : In64 c.off) : ownE c = if ¬ bits .andNot .i64 (bits .or .i64 c.on c.off) 127 = 0 then 62 else if ¬ bits .and .i64 c.on c.off = 0 then 62 else if c.col < -1 ∨ 15 < c.col then 63 else 0 := by
  have hm := mask_ok h1 h2
  unfold ownE
  by_cases a : bits .andNot .i64 (bits .or .i64 c.on c.off) 127 = 0
  · have hm2 := hm.1 a
    by_cases b : bits .and .i64 c.on c.off = 0
    · rw [if_neg (show ¬ (c.on < 0 ∨ c.off < 0 ∨ 127 < c.on ∨ 127 < c.off ∨ ¬ bits .and .i64 c.on c.off = 0) by rintro (h | h | h | h | h) <;> first | omega | exact h b), if_neg (Classical.not_not.2 a), if_neg (Classical.not_not.2 b)]
    · rw [if_pos (.inr (.inr (.inr (.inr b)))), if_neg (Classical.not_not.2 a), if_pos b]
  · have h3 : ¬ (0 ≤ c.on ∧ c.on ≤ 127 ∧ 0 ≤ c.off ∧ c.off ≤ 127) := fun h => a (hm.2 h)
    have h4 : c.on < 0 ∨ c.off < 0 ∨ 127 < c.on ∨ 127 < c.off ∨ ¬ bits .and .i64 c.on c.off = 0 := by
      rcases Int.lt_or_le c.on 0 with h | h
      · exact .inl h
      rcases Int.lt_or_le c.off 0 with h' | h'
      · exact .inr (.inl h')
      rcases Int.lt_or_le 127 c.on with h'' | h''
      · exact .inr (.inr (.inl h''))
      rcases Int.lt_or_le 127 c.off with h''' | h'''
      · exact .inr (.inr (.inr (.inl h''')))
      exact absurd ⟨h, h'', h', h'''⟩ h3
    rw [if_pos h4, if_pos a]
theorem ret_i {k : IntKind} {a b : Int} (h : a = b) : Ending.returned (.int k a) = Ending.returned (.int k b) := by rw [h]
theorem bne_t {a b : Int} (h : ¬ a = b) : (a != b) = true := by simpa using h
theorem bne_f {a b : Int} (h : a = b) : (a != b) = false := by simpa using h

set_option maxRecDepth 100000 in
set_option maxHeartbeats 4000000 in
theorem checkOwn_pro (l : List Sty) (i : Nat) (v : Value) (w : World) (h : Sh w v l) (hf : Fit l) (hi : i < l.length) :
    Calls Tryz.prog 46 #[v, .int .i64 i] w (Says (.int .i64 (ck1 l i : Nat)) w) := by
  obtain ⟨n1, n2, n3, n4, n5⟩ := hf.at hi
  have hgi := gets_eq hi
  obtain ⟨j, hj, hji⟩ := fnd_here (l := l) (x := (gets l i).nm) hi (by rw [hgi])
  have hO := ownE_mask n3 n4
  obtain ⟨pa, cap, rfl, hc1, hc2⟩ := h.form
  obtain ⟨b, off, rfl, c0, c1, c2, c3, c4⟩ := h.cells hi
  have HC : Hid (ck1 l i = _) := Lib.hid (show ck1 l i = if nameB (gets l i).nm = false then 60 else if j < i then 61 else ownE (gets l i).ch by unfold ck1; rw [hj]; rfl)
  obtain ⟨s, hs⟩ : ∃ s, gets l i = s := ⟨_, rfl⟩
  rw [hs] at n1 n3 n4 n5 hj hO c0 c1 c2 c3 c4 HC
  have HA := Lib.hid ((Below.refl _ w).alloc (Nat.le_refl _) (.cells #[.string (bs s.nm), .string (bs s.pr), .int .i64 s.ch.on, .int .i64 s.ch.off, .int .i64 s.ch.col] 66))
  have HF := Lib.hid ((find_pro l s.nm _ _ (h.below HA.out)))
  rw [hj] at HF
  have HN := Lib.hid (fun W => isName_pro s.nm W n1)
  have bx := heap_alloc_new w (.cells #[.string (bs s.nm), .string (bs s.pr), .int .i64 s.ch.on, .int .i64 s.ch.off, .int .i64 s.ch.col] 66)
  have HX := Lib.hid bx
  clear h hf n1 n2 hj bx hgi hs
  unfold maxLen at hc2
  unfold fndV at HF
  by_cases hn : nameB s.nm = true
  · rw [hn] at HN HC
    rw [if_neg (by decide)] at HC
    by_cases hlt : j < i
    · have HV := Lib.hid (HC.out.trans (if_pos hlt))
      clear HC hO
      go_enter Tryz.func46, Tryz.ntmps46
      go_wp2_with fail
      refine HF.out.mono ?_
      rintro e w1 ⟨rfl, rfl⟩
      go_wp2_with fail
      refine (HN.out _).mono ?_
      rintro e w2 ⟨rfl, hb⟩
      have x2 := (hb.block w.heap.size (Array.getElem?_eq_some_iff.1 HX.out).1).trans HX.out
      have d2 : w2.cell? ⟨w.heap.size, 2, none⟩ = some (.int .i64 s.ch.on) := by rw [cell_of_row _ _ _ _ _ _ x2]; rfl
      have d3 : w2.cell? ⟨w.heap.size, 3, none⟩ = some (.int .i64 s.ch.off) := by rw [cell_of_row _ _ _ _ _ _ x2]; rfl
      have d4 : w2.cell? ⟨w.heap.size, 4, none⟩ = some (.int .i64 s.ch.col) := by rw [cell_of_row _ _ _ _ _ _ x2]; rfl
      have HB := Lib.hid (HA.out.trans (hb.mono HA.out.size))
      clear hb x2
      go_wp2_with fail
      go_ret
      exact ⟨ret_i (by rw [HV.out]; rfl), HB.out⟩
    · have HC2 := Lib.hid (HC.out.trans (if_neg hlt))
      clear HC
      by_cases m1 : bits .andNot .i64 (bits .or .i64 s.ch.on s.ch.off) 127 = 0
      · have t1 := bne_f m1
        rw [if_neg (fun h => h m1)] at hO
        clear m1
        by_cases m2 : bits .and .i64 s.ch.on s.ch.off = 0
        · have t2 := bne_f m2
          rw [if_neg (fun h => h m2)] at hO
          clear m2
          by_cases m3 : s.ch.col < -1
          · have HV := Lib.hid (HC2.out.trans (hO.trans (if_pos (.inl m3))))
            clear HC2 hO
            go_enter Tryz.func46, Tryz.ntmps46
            go_wp2_with fail
            refine HF.out.mono ?_
            rintro e w1 ⟨rfl, rfl⟩
            go_wp2_with fail
            refine (HN.out _).mono ?_
            rintro e w2 ⟨rfl, hb⟩
            have x2 := (hb.block w.heap.size (Array.getElem?_eq_some_iff.1 HX.out).1).trans HX.out
            have d2 : w2.cell? ⟨w.heap.size, 2, none⟩ = some (.int .i64 s.ch.on) := by rw [cell_of_row _ _ _ _ _ _ x2]; rfl
            have d3 : w2.cell? ⟨w.heap.size, 3, none⟩ = some (.int .i64 s.ch.off) := by rw [cell_of_row _ _ _ _ _ _ x2]; rfl
            have d4 : w2.cell? ⟨w.heap.size, 4, none⟩ = some (.int .i64 s.ch.col) := by rw [cell_of_row _ _ _ _ _ _ x2]; rfl
            have HB := Lib.hid (HA.out.trans (hb.mono HA.out.size))
            clear hb x2
            go_wp2_with fail
            go_ret
            exact ⟨ret_i (by rw [HV.out]; rfl), HB.out⟩
          · by_cases m4 : 15 < s.ch.col
            · have HV := Lib.hid (HC2.out.trans (hO.trans (if_pos (.inr m4))))
              have t3 : decide (s.ch.col < -1) = false := by simpa using m3
              clear HC2 hO
              go_enter Tryz.func46, Tryz.ntmps46
              go_wp2_with fail
              refine HF.out.mono ?_
              rintro e w1 ⟨rfl, rfl⟩
              go_wp2_with fail
              refine (HN.out _).mono ?_
              rintro e w2 ⟨rfl, hb⟩
              have x2 := (hb.block w.heap.size (Array.getElem?_eq_some_iff.1 HX.out).1).trans HX.out
              have d2 : w2.cell? ⟨w.heap.size, 2, none⟩ = some (.int .i64 s.ch.on) := by rw [cell_of_row _ _ _ _ _ _ x2]; rfl
              have d3 : w2.cell? ⟨w.heap.size, 3, none⟩ = some (.int .i64 s.ch.off) := by rw [cell_of_row _ _ _ _ _ _ x2]; rfl
              have d4 : w2.cell? ⟨w.heap.size, 4, none⟩ = some (.int .i64 s.ch.col) := by rw [cell_of_row _ _ _ _ _ _ x2]; rfl
              have HB := Lib.hid (HA.out.trans (hb.mono HA.out.size))
              clear hb x2
              go_wp2_with fail
              go_ret
              exact ⟨ret_i (by rw [HV.out]; rfl), HB.out⟩
            · have HV := Lib.hid (HC2.out.trans (hO.trans (if_neg (by omega))))
              have t3 : decide (s.ch.col < -1) = false := by simpa using m3
              have t4 : decide (15 < s.ch.col) = false := by simpa using m4
              clear HC2 hO
              go_enter Tryz.func46, Tryz.ntmps46
              go_wp2_with fail
              refine HF.out.mono ?_
              rintro e w1 ⟨rfl, rfl⟩
              go_wp2_with fail
              refine (HN.out _).mono ?_
              rintro e w2 ⟨rfl, hb⟩
              have x2 := (hb.block w.heap.size (Array.getElem?_eq_some_iff.1 HX.out).1).trans HX.out
              have d2 : w2.cell? ⟨w.heap.size, 2, none⟩ = some (.int .i64 s.ch.on) := by rw [cell_of_row _ _ _ _ _ _ x2]; rfl
              have d3 : w2.cell? ⟨w.heap.size, 3, none⟩ = some (.int .i64 s.ch.off) := by rw [cell_of_row _ _ _ _ _ _ x2]; rfl
              have d4 : w2.cell? ⟨w.heap.size, 4, none⟩ = some (.int .i64 s.ch.col) := by rw [cell_of_row _ _ _ _ _ _ x2]; rfl
              have HB := Lib.hid (HA.out.trans (hb.mono HA.out.size))
              clear hb x2
              go_wp2_with fail
              go_ret
              exact ⟨ret_i (by rw [HV.out]; rfl), HB.out⟩
        · have t2 := bne_t m2
          rw [if_pos m2] at hO
          have HV := Lib.hid (HC2.out.trans hO)
          clear HC2 hO m2
          go_enter Tryz.func46, Tryz.ntmps46
          go_wp2_with fail
          refine HF.out.mono ?_
          rintro e w1 ⟨rfl, rfl⟩
          go_wp2_with fail
          refine (HN.out _).mono ?_
          rintro e w2 ⟨rfl, hb⟩
          have x2 := (hb.block w.heap.size (Array.getElem?_eq_some_iff.1 HX.out).1).trans HX.out
          have d2 : w2.cell? ⟨w.heap.size, 2, none⟩ = some (.int .i64 s.ch.on) := by rw [cell_of_row _ _ _ _ _ _ x2]; rfl
          have d3 : w2.cell? ⟨w.heap.size, 3, none⟩ = some (.int .i64 s.ch.off) := by rw [cell_of_row _ _ _ _ _ _ x2]; rfl
          have d4 : w2.cell? ⟨w.heap.size, 4, none⟩ = some (.int .i64 s.ch.col) := by rw [cell_of_row _ _ _ _ _ _ x2]; rfl
          have HB := Lib.hid (HA.out.trans (hb.mono HA.out.size))
          clear hb x2
          go_wp2_with fail
          go_ret
          exact ⟨ret_i (by rw [HV.out]; rfl), HB.out⟩
      · have t1 := bne_t m1
        rw [if_pos m1] at hO
        have HV := Lib.hid (HC2.out.trans hO)
        clear HC2 hO m1
        go_enter Tryz.func46, Tryz.ntmps46
        go_wp2_with fail
        refine HF.out.mono ?_
        rintro e w1 ⟨rfl, rfl⟩
        go_wp2_with fail
        refine (HN.out _).mono ?_
        rintro e w2 ⟨rfl, hb⟩
        have x2 := (hb.block w.heap.size (Array.getElem?_eq_some_iff.1 HX.out).1).trans HX.out
        have d2 : w2.cell? ⟨w.heap.size, 2, none⟩ = some (.int .i64 s.ch.on) := by rw [cell_of_row _ _ _ _ _ _ x2]; rfl
        have d3 : w2.cell? ⟨w.heap.size, 3, none⟩ = some (.int .i64 s.ch.off) := by rw [cell_of_row _ _ _ _ _ _ x2]; rfl
        have d4 : w2.cell? ⟨w.heap.size, 4, none⟩ = some (.int .i64 s.ch.col) := by rw [cell_of_row _ _ _ _ _ _ x2]; rfl
        have HB := Lib.hid (HA.out.trans (hb.mono HA.out.size))
        clear hb x2
        go_wp2_with fail
        go_ret
        exact ⟨ret_i (by rw [HV.out]; rfl), HB.out⟩
  · have hn2 : nameB s.nm = false := by simpa using hn
    rw [hn2] at HN HC
    have HV := Lib.hid (HC.out.trans (if_pos rfl))
    clear HC hO hn
    go_enter Tryz.func46, Tryz.ntmps46
    go_wp2_with fail
    refine HF.out.mono ?_
    rintro e w1 ⟨rfl, rfl⟩
    go_wp2_with fail
    refine (HN.out _).mono ?_
    rintro e w2 ⟨rfl, hb⟩
    have x2 := (hb.block w.heap.size (Array.getElem?_eq_some_iff.1 HX.out).1).trans HX.out
    have d2 : w2.cell? ⟨w.heap.size, 2, none⟩ = some (.int .i64 s.ch.on) := by rw [cell_of_row _ _ _ _ _ _ x2]; rfl
    have d3 : w2.cell? ⟨w.heap.size, 3, none⟩ = some (.int .i64 s.ch.off) := by rw [cell_of_row _ _ _ _ _ _ x2]; rfl
    have d4 : w2.cell? ⟨w.heap.size, 4, none⟩ = some (.int .i64 s.ch.col) := by rw [cell_of_row _ _ _ _ _ _ x2]; rfl
    have HB := Lib.hid (HA.out.trans (hb.mono HA.out.size))
    clear hb x2
    go_wp2_with fail
    go_ret
    exact ⟨ret_i (by rw [HV.out]; rfl), HB.out⟩
end
section
open Go.RowKit Go.WideShapes Go.ChangeShapes
section
variable {H : Type} {enc : TypeId × Value → H} {P : Program}
theorem post_of_below {f : Func} {s : ChangeSpec} {apart fresh handsOn again : Bool} {W W' : World} {args : Array Value} {v : Value} {ds gs : List (DataW H)} {before pa pv : List MemPlace}
    (hW : DataW.Whole enc P f.params.toList s.vars apart W args.toList ds gs before)
    (hres : ∀ (b : Nat) (sp : Nat → Bool) (hd : Bool), DataW.TrodAll enc P W' b sp hd f.resultTypes.toList (v.resultList f.resultTypes.size) (s.fn H (ds ++ gs)).results [])
    (hargs : ∀ sp : Nat → Bool, (∀ p ∈ before, sp p.block = true) → DataW.TrodAll enc P W' 0 sp true f.params.toList args.toList (s.fn H (ds ++ gs)).args pa)
    (hvars : ∀ sp : Nat → Bool, (∀ p ∈ before, sp p.block = true) → DataW.TrodVars enc P W' sp s.vars (s.fn H (ds ++ gs)).vars pv)
    (hps : before = pa ++ pv) (hb : Below W.heap.size W W')
    (hok : ∀ (j : Nat) (t : TypeId) (r : Value), f.resultTypes[j]? = some t → (v.resultList f.resultTypes.size)[j]? = some r → Value.okWide P W' .any 0 t r) :
    s.post enc P f apart fresh handsOn again W args v W' := by
  have hlt : ∀ p ∈ before, p.block < W.heap.size := fun p hp => hW.lt p hp
  have hold : ∀ p ∈ before, (fun b => decide (b < W.heap.size)) p.block = true := fun p hp => by simpa using hlt p hp
  refine ⟨ds, gs, before, [], pa, pv, hW, hres _ _ _, hargs _ hold, hvars _ hold, World.keptBut_mono (fun p hp => ⟨hp, ?_⟩) (hb.frame (· ∈ before)), fun _ => ?_⟩
  · rw [hps, List.mem_append] at hp
    exact Or.inr hp
  · obtain ⟨_, _, _, _, _, hz, hn⟩ := hW
    refine ⟨hok, _, _, ([] ++ pa) ++ pv, ⟨[] ++ pa, pv, trodAll_append (hargs _ (fun _ _ => rfl)) (hres _ _ _), hvars _ (fun _ _ => rfl), rfl, ?_, ?_⟩, ?_⟩
    · intro b off hp
      have hin : MemPlace.cell b off ∈ before := by rw [hps]; simpa using hp
      rw [hb.frozen (hlt _ hin)]
      exact hz b off hin
    · intro ha
      have := hn ha
      rw [hps] at this
      simpa using this
    · intro p hp _
      rw [hps]
      simpa using hp
end
theorem lenOf {w : World} {base : Nat} {e : TypeId} {size : Nat} {v : Value} {n : Nat} {xs : List Value} (h : w.ownsRow base e size v n xs) : ∃ (p : Option Addr) (c : Nat), v = .slice p n c := by
  rcases h.2 with ⟨rfl, h0⟩ | ⟨g, cap, cur, rfl, _⟩
  · exact ⟨none, 0, by rw [h0]⟩
  · exact ⟨_, _, rfl⟩
end
section
open Go.RowKit
set_option linter.unusedVariables false

theorem infoInt : (Tryz.prog.info? 3).map (fun i => (i.zero, i.size, i.bytes)) = some (some (.int .i64 0), 1, 8) := by kernel_rfl
def natsV (p : List Nat) : List Value := p.map fun (k : Nat) => Value.int .i64 (k : Int)
/-- What chain answers. -/
def ChainIs (l : List Sty) (i : Nat) (w : World) (e : Ending) (w' : World) : Prop := match path l 8 i with
  | some p => (∃ r, e = .returned (.tuple #[r, .bool true]) ∧ w'.ownsRow w.heap.size 3 1 r p.length (natsV p)) ∧ Below w.heap.size w w'
  | none => e = .returned (.tuple #[.slice none 0 0, .bool false]) ∧ Below w.heap.size w w'
def slen : Value → Nat
  | .slice _ n _ => n
  | _ => 0
theorem cells_new1 (w : World) (v : Value) (t : TypeId) : ∀ (j : Nat) (u : Value), [v][j]? = some u → (w.alloc (.cells #[v] t)).cell? ((⟨w.heap.size, 0, none⟩ : Addr).add j) = some u := fun j u hj => by
  have : j = 0 := by have := (List.getElem?_eq_some_iff.1 hj).1; simpa using this
  subst this
  simp at hj
  subst hj
  simp [Addr.add]

set_option maxRecDepth 100000 in
set_option maxHeartbeats 4000000 in
theorem chain_pro (l : List Sty) (i : Nat) (v : Value) (w : World) (h : Sh w v l) (hi : i < l.length) :
    Calls Tryz.prog 75 #[v, .int .i64 i] w (ChainIs l i w) := by
  obtain ⟨i0, hti, hz0, hz1, hz2⟩ := info_parts infoInt
  obtain ⟨pa, cap, rfl, hc1, hc2⟩ := h.form
  unfold maxLen at hc2
  have HS := Lib.hid h
  clear h
  go_enter Tryz.func75, Tryz.ntmps75
  go_wp2_with fail
  go_step3
  go_wp2_with fail
  go_step3
  try go_wp2_with fail
  go_loopw [1, 6, 7, 8] (fun n u _ _ wr => ∃ (k : Nat) (acc : List Nat), n = .int .i64 k ∧ k < l.length ∧ acc.length ≤ 7 ∧ Hid (path l 8 i = (path l (8 - acc.length) k).map (acc ++ ·)) ∧ wr.ownsRow w.heap.size 3 1 u acc.length (natsV acc) ∧ Below w.heap.size w wr) (fun _ u _ _ _ => 8 - slen u)
  case atStart => exact ⟨i, [], rfl, hi, by simp, by cases path l 8 i <;> rfl, World.ownsRow_nil _ _ _ _, Below.refl _ _⟩
  case round =>
    obtain ⟨k, acc, rfl, hk, hal, HP, hown, hbw⟩ := hrel
    obtain ⟨f, hf⟩ : ∃ f, f + acc.length = 7 := ⟨7 - acc.length, by omega⟩
    have hp : path l 8 i = (match upS l k with
      | none => some [k]
      | some j => (path l f j).map (k :: ·)).map (acc ++ ·) := by
      rw [HP.out, show 8 - acc.length = f + 1 by omega]; rfl
    have HF := Lib.hid hf
    have HO := Lib.hid hown
    have HB := Lib.hid hbw
    have O1 := Lib.hid (show ∀ u ∈ [Value.int .i64 (k : Int)], u.oneCell' = true by intro u hu; simp at hu; subst hu; rfl)
    have B1 := Lib.hid (show acc.length + 1 ≤ maxLen by unfold maxLen; omega)
    have B2 := Lib.hid (show (acc.length + 1) * 8 ≤ 140737488355328 by omega)
    have B3 := Lib.hid (show w.heap.size ≤ (wr.alloc (.cells #[.int .i64 (k : Int)] 3)).heap.size by have := hbw.size; simp; omega)
    obtain ⟨p6, c6, rfl⟩ := lenOf hown
    clear hown hbw hf HP
    have HK := Lib.hid hk
    obtain ⟨o, ho⟩ : ∃ o, fnd l (gets l k).pr = o := ⟨_, rfl⟩
    have HFO := Lib.hid ho
    obtain ⟨q, hq⟩ : ∃ q, (gets l k).pr = q := ⟨_, rfl⟩
    have HQ := Lib.hid hq
    have hup : upS l k = if q = [] then none else o := by unfold upS; rw [← ho, hq]
    clear ho hq
    by_cases hq0 : q = []
    · rw [if_pos hq0] at hup
      rw [hup] at hp
      have HP := Lib.hid (show path l 8 i = some (acc ++ [k]) from hp)
      have tq : (bs q).toList = [] := by rw [bs_toList, hq0]
      clear hp hup hq0
      go_wp2_with (at_builtin; go_loud (refine wpList_append_own _ rfl _ _ 49 rfl w.heap.size 3 i0 (.int .i64 0) 1 8 Tryz.underlying49 hti hz0 hz1 hz2 rfl (by decide) _ _ _ rfl (HO.out.alloc _) ⟨wr.heap.size, 0, none⟩ 1 1 [.int .i64 (k : Int)] rfl rfl (cells_new1 _ _ _) O1.out B1.out B2.out B3.out ?_; intro v' w1 hown' hgrow _; have HO1 := Lib.hid hown'; have HB1 := Lib.hid ((HB.out.alloc HB.out.size _).grown hgrow B3.out (fun j hj => (HO.out.lt j hj).1)); have HS1 := Lib.hid (HS.out.below HB1.out); obtain ⟨pv, cv, rfl⟩ := lenOf hown'; obtain ⟨b, off, rfl, c0, c1, c2, c3, c4⟩ := HS1.out.cells HK.out; rw [HQ.out] at c1; have HFI := Lib.hid (find_pro l q _ w1 HS1.out); rw [show fnd l q = o by rw [← HQ.out]; exact HFO.out] at HFI; unfold fndV at HFI; clear hown' hgrow c0 c2 c3 c4))
      refine HFI.out.mono ?_
      rintro e w2 ⟨rfl, rfl⟩
      go_wp2_with fail
      try rw [Exit.noGoto_ret]
      go_ret2
      unfold ChainIs
      rw [HP.out]
      exact ⟨⟨_, rfl, by have h := HO1.out; simpa [natsV] using h⟩, HB1.out⟩
    · rw [if_neg hq0] at hup
      have tq := bs_toList q
      have ne : q.isEmpty = false := by cases q with | nil => exact absurd rfl hq0 | cons a r => rfl
      clear hq0
      rcases Option.eq_none_or_eq_some o with e | ⟨j, e⟩
      · rw [hup, e] at hp
        have to : o.isSome = false := by rw [e]; rfl
        clear e
        have HP := Lib.hid (show path l 8 i = some (acc ++ [k]) from hp)
        clear hp hup
        go_wp2_with (at_builtin; go_loud (refine wpList_append_own _ rfl _ _ 49 rfl w.heap.size 3 i0 (.int .i64 0) 1 8 Tryz.underlying49 hti hz0 hz1 hz2 rfl (by decide) _ _ _ rfl (HO.out.alloc _) ⟨wr.heap.size, 0, none⟩ 1 1 [.int .i64 (k : Int)] rfl rfl (cells_new1 _ _ _) O1.out B1.out B2.out B3.out ?_; intro v' w1 hown' hgrow _; have HO1 := Lib.hid hown'; have HB1 := Lib.hid ((HB.out.alloc HB.out.size _).grown hgrow B3.out (fun j hj => (HO.out.lt j hj).1)); have HS1 := Lib.hid (HS.out.below HB1.out); obtain ⟨pv, cv, rfl⟩ := lenOf hown'; obtain ⟨b, off, rfl, c0, c1, c2, c3, c4⟩ := HS1.out.cells HK.out; rw [HQ.out] at c1; have HFI := Lib.hid (find_pro l q _ w1 HS1.out); rw [show fnd l q = o by rw [← HQ.out]; exact HFO.out] at HFI; unfold fndV at HFI; clear hown' hgrow c0 c2 c3 c4))
        refine HFI.out.mono ?_
        rintro e w2 ⟨rfl, rfl⟩
        go_wp2_with fail
        try rw [Exit.noGoto_ret]
        go_ret2
        unfold ChainIs
        rw [HP.out]
        exact ⟨⟨_, rfl, by have h := HO1.out; simpa [natsV] using h⟩, HB1.out⟩
      · rw [hup, e] at hp
        have to : o.isSome = true := by rw [e]; rfl
        have HJ := Lib.hid (fnd_some (HFO.out.trans e)).1
        have HG := Lib.hid (show o.getD 0 = j by rw [e]; rfl)
        clear e
        by_cases h7 : acc.length = 7
        · have hf0 : f = 0 := by have := HF.out; omega
          subst hf0
          have HP := Lib.hid (show path l 8 i = none from hp)
          have t8 : ((acc.length : Int) + 1 == 8) = true := by simp; omega
          clear hp hup h7
          go_wp2_with (at_builtin; go_loud (refine wpList_append_own _ rfl _ _ 49 rfl w.heap.size 3 i0 (.int .i64 0) 1 8 Tryz.underlying49 hti hz0 hz1 hz2 rfl (by decide) _ _ _ rfl (HO.out.alloc _) ⟨wr.heap.size, 0, none⟩ 1 1 [.int .i64 (k : Int)] rfl rfl (cells_new1 _ _ _) O1.out B1.out B2.out B3.out ?_; intro v' w1 hown' hgrow _; have HO1 := Lib.hid hown'; have HB1 := Lib.hid ((HB.out.alloc HB.out.size _).grown hgrow B3.out (fun j hj => (HO.out.lt j hj).1)); have HS1 := Lib.hid (HS.out.below HB1.out); obtain ⟨pv, cv, rfl⟩ := lenOf hown'; obtain ⟨b, off, rfl, c0, c1, c2, c3, c4⟩ := HS1.out.cells HK.out; rw [HQ.out] at c1; have HFI := Lib.hid (find_pro l q _ w1 HS1.out); rw [show fnd l q = o by rw [← HQ.out]; exact HFO.out] at HFI; unfold fndV at HFI; clear hown' hgrow c0 c2 c3 c4))
          refine HFI.out.mono ?_
          rintro e w2 ⟨rfl, rfl⟩
          go_wp2_with fail
          try rw [Exit.noGoto_ret]
          go_ret2
          unfold ChainIs
          rw [HP.out]
          exact ⟨rfl, HB1.out⟩
        · have HP := Lib.hid hp
          have H7 := Lib.hid h7
          have t8 : ((acc.length : Int) + 1 == 8) = false := by simp; omega
          clear hp hup h7
          go_wp2_with (at_builtin; go_loud (refine wpList_append_own _ rfl _ _ 49 rfl w.heap.size 3 i0 (.int .i64 0) 1 8 Tryz.underlying49 hti hz0 hz1 hz2 rfl (by decide) _ _ _ rfl (HO.out.alloc _) ⟨wr.heap.size, 0, none⟩ 1 1 [.int .i64 (k : Int)] rfl rfl (cells_new1 _ _ _) O1.out B1.out B2.out B3.out ?_; intro v' w1 hown' hgrow _; have HO1 := Lib.hid hown'; have HB1 := Lib.hid ((HB.out.alloc HB.out.size _).grown hgrow B3.out (fun j hj => (HO.out.lt j hj).1)); have HS1 := Lib.hid (HS.out.below HB1.out); obtain ⟨pv, cv, rfl⟩ := lenOf hown'; obtain ⟨b, off, rfl, c0, c1, c2, c3, c4⟩ := HS1.out.cells HK.out; rw [HQ.out] at c1; have HFI := Lib.hid (find_pro l q _ w1 HS1.out); rw [show fnd l q = o by rw [← HQ.out]; exact HFO.out] at HFI; unfold fndV at HFI; clear hown' hgrow c0 c2 c3 c4))
          refine HFI.out.mono ?_
          rintro e w2 ⟨rfl, rfl⟩
          go_wp2_with fail
          go_roundw
          case rel =>
            have h7 := H7.out
            refine ⟨j, acc ++ [k], by rw [HG.out], HJ.out, by simp; omega, ?_, by have h := HO1.out; simpa [natsV] using h, HB1.out⟩
            have hf := HF.out
            show path l 8 i = _
            rw [HP.out, show 8 - (acc ++ [k]).length = f by simp; omega]
            simp only [Option.map_map]
            congr 1
            funext x
            simp
          case measure => have := H7.out; simp [slen]; omega
end
section
open Go.RowKit
set_option linter.unusedVariables false

theorem chain_some {l : List Sty} {i : Nat} {w : World} {p : List Nat} (h : path l 8 i = some p) {e : Ending} {w' : World} (hc : ChainIs l i w e w') : ∃ r, e = .returned (.tuple #[r, .bool true]) ∧ w'.ownsRow w.heap.size 3 1 r p.length (natsV p) ∧ Below w.heap.size w w' := by
  unfold ChainIs at hc; rw [h] at hc
  obtain ⟨⟨r, h1, h2⟩, h3⟩ := hc
  exact ⟨r, h1, h2, h3⟩
theorem chain_none {l : List Sty} {i : Nat} {w : World} (h : path l 8 i = none) {e : Ending} {w' : World} (hc : ChainIs l i w e w') : e = .returned (.tuple #[.slice none 0 0, .bool false]) ∧ Below w.heap.size w w' := by
  unfold ChainIs at hc; rw [h] at hc; exact hc
theorem ck2_no {l : List Sty} {i : Nat} (h : ¬ (gets l i).pr = [] ∧ fnd l (gets l i).pr = none) : ck2 l i = 64 := by unfold ck2; rw [if_pos h]
theorem ck2_far {l : List Sty} {i : Nat} (h : ¬ (¬ (gets l i).pr = [] ∧ fnd l (gets l i).pr = none)) (h2 : path l 8 i = none) : ck2 l i = 65 := by unfold ck2; rw [if_neg h, if_pos h2]
theorem ck2_ok {l : List Sty} {i : Nat} {p : List Nat} (h : ¬ (¬ (gets l i).pr = [] ∧ fnd l (gets l i).pr = none)) (h2 : path l 8 i = some p) : ck2 l i = 0 := by unfold ck2; rw [if_neg h, if_neg (by rw [h2]; simp)]

set_option maxRecDepth 100000 in
set_option maxHeartbeats 4000000 in
theorem checkParents_pro (l : List Sty) (i : Nat) (v : Value) (w : World) (h : Sh w v l) (hi : i < l.length) :
    Calls Tryz.prog 47 #[v, .int .i64 i] w (Says (.int .i64 (ck2 l i : Nat)) w) := by
  have HC := Lib.hid (chain_pro l i v w h hi)
  have hc2' := @ck2_far l i
  have hc3' := @ck2_ok l i
  have hc1' := @ck2_no l i
  obtain ⟨pa, cap, rfl, hc1, hc2⟩ := h.form
  obtain ⟨b, off, rfl, c0, c1, c2, c3, c4⟩ := h.cells hi
  have HF := Lib.hid (find_pro l (gets l i).pr _ w h)
  obtain ⟨q, hq⟩ : ∃ q, (gets l i).pr = q := ⟨_, rfl⟩
  rw [hq] at c1 HF hc1' hc2' hc3'
  obtain ⟨o, ho⟩ : ∃ o, fnd l q = o := ⟨_, rfl⟩
  rw [ho] at HF hc1' hc2' hc3'
  unfold fndV at HF
  unfold maxLen at hc2
  have tq := bs_toList q
  clear h c0 c2 c3 c4 hq ho
  by_cases hb : ¬ q = [] ∧ o = none
  · have HV := Lib.hid (hc1' hb)
    have ne : q.isEmpty = false := by cases hq : q with | nil => exact absurd hq hb.1 | cons a r => rfl
    have to : o.isSome = false := by rw [hb.2]; rfl
    clear hb hc1' hc2' hc3'
    go_enter Tryz.func47, Tryz.ntmps47
    go_wp2_with fail
    refine HF.out.mono ?_
    rintro e w2 ⟨rfl, rfl⟩
    go_wp2_with fail
    go_ret
    rw [HV.out]
    exact ⟨rfl, Below.refl _ _⟩
  · have K2 := Lib.hid (hc2' hb)
    have K3 := Lib.hid (fun p => hc3' (p := p) hb)
    have hg : (!q.isEmpty && !o.isSome) = false := by
      cases hq : q with
      | nil => rfl
      | cons a r =>
        cases ho : o with
        | none => exact absurd ⟨by rw [hq]; simp, ho⟩ hb
        | some j => rfl
    clear hb hc1' hc2' hc3'
    have hg2 : q.isEmpty = true ∨ q.isEmpty = false ∧ o.isSome = true := by
      cases h1 : q.isEmpty with
      | true => exact .inl rfl
      | false => rw [h1] at hg; right; exact ⟨rfl, by simpa using hg⟩
    clear hg
    rcases hg2 with t1 | ⟨t1, t2⟩
    all_goals
      go_enter Tryz.func47, Tryz.ntmps47
      go_wp2_with fail
      refine HF.out.mono ?_
      rintro e w2 ⟨rfl, rfl⟩
      go_wp2_with fail
      refine HC.out.mono ?_
      intro e w3 hh
      cases hp : path l 8 i with
      | none =>
        obtain ⟨rfl, hb⟩ := chain_none hp hh
        have HB := Lib.hid hb
        have HV := Lib.hid (K2.out hp)
        clear hb hh hp
        go_wp2_with fail
        go_ret
        rw [HV.out]
        exact ⟨rfl, HB.out⟩
      | some p =>
        obtain ⟨r, rfl, _, hb⟩ := chain_some hp hh
        have HB := Lib.hid hb
        have HV := Lib.hid (K3.out p hp)
        clear hb hh hp
        go_wp2_with fail
        go_ret
        rw [HV.out]
        exact ⟨rfl, HB.out⟩

/-- What Check and the like answer. -/
def ckV (p : Nat × Nat) : Value := .tuple #[.int .i64 p.1, .int .i64 p.2]
theorem fb_step {f : Nat → Nat} {n k : Nat} (hk : k < n) : fb f (n - k) k = if f k = 0 then fb f (n - (k + 1)) (k + 1) else some (k, f k) := by
  obtain ⟨m, hm⟩ : ∃ m, n - k = m + 1 := ⟨n - k - 1, by omega⟩
  rw [hm, show n - (k + 1) = m by omega]; rfl
theorem fb_end {f : Nat → Nat} {n k : Nat} (hk : n ≤ k) : fb f (n - k) k = none := by rw [show n - k = 0 by omega]; rfl
theorem natne {a : Nat} (h : ¬ a = 0) : ((a : Int) != 0) = true := by simp; omega
theorem nateq {a : Nat} (h : a = 0) : ((a : Int) != 0) = false := by simp; omega

theorem checkM_1 {l : List Sty} {p : Nat × Nat} (h64 : ¬ 64 < l.length) (h : fb (ck1 l) l.length 0 = some p) : checkM l = p := by unfold checkM; rw [if_neg h64, h]
theorem checkM_2 {l : List Sty} {p : Nat × Nat} (h64 : ¬ 64 < l.length) (h : fb (ck1 l) l.length 0 = none) (h2 : fb (ck2 l) l.length 0 = some p) : checkM l = p := by unfold checkM; rw [if_neg h64, h]; simp only [h2]
theorem checkM_0 {l : List Sty} (h64 : ¬ 64 < l.length) (h : fb (ck1 l) l.length 0 = none) (h2 : fb (ck2 l) l.length 0 = none) : checkM l = (0, 0) := by unfold checkM; rw [if_neg h64, h]; simp only [h2]

set_option maxRecDepth 100000 in
set_option maxHeartbeats 4000000 in
theorem check_pro' (l : List Sty) (v : Value) (w : World) (h : Sh w v l) (hf : Fit l) :
    Calls Tryz.prog 25 #[v] w (Says (ckV (checkM l)) w) := by
  obtain ⟨pa, cap, rfl, hc1, hc2⟩ := h.form
  unfold maxLen at hc2
  have HS := Lib.hid h
  have HFt := Lib.hid hf
  clear h hf
  by_cases h64 : 64 < l.length
  · have HV := Lib.hid (show checkM l = (0, 2) by unfold checkM; rw [if_pos h64])
    have h64' : (64 : Int) < l.length := by omega
    go_enter Tryz.func25, Tryz.ntmps25
    go_wp2_with fail
    go_ret2
    rw [HV.out]
    exact ⟨rfl, Below.refl _ _⟩
  have h64' : ¬ (64 : Int) < l.length := by omega
  have HM := Lib.hid (And.intro (fun p => @checkM_1 l p h64) (And.intro (fun p => @checkM_2 l p h64) (@checkM_0 l h64)))
  clear h64
  go_enter Tryz.func25, Tryz.ntmps25
  go_wp2_with fail
  go_loopw [4, 5, 13] (fun _ _ i wr => ∃ k : Nat, k ≤ l.length ∧ i = .int .i64 k ∧ Hid (fb (ck1 l) (l.length - k) k = fb (ck1 l) l.length 0) ∧ Below w.heap.size w wr) (fun _ _ i _ => l.length - (intOf i).toNat)
  case atStart => exact ⟨0, Nat.zero_le _, rfl, rfl, Below.refl _ _⟩
  case round =>
    obtain ⟨k, hk, rfl, HF, hbw⟩ := hrel
    have HB := Lib.hid hbw
    clear hbw
    by_cases hlt : k < l.length
    · have hs := fb_step (f := ck1 l) hlt
      have HO := Lib.hid (checkOwn_pro l k _ wr (HS.out.below HB.out) HFt.out hlt)
      obtain ⟨c, hc⟩ : ∃ c, ck1 l k = c := ⟨_, rfl⟩
      rw [hc] at hs HO
      by_cases hz : c = 0
      · rw [if_pos hz] at hs
        have HN := Lib.hid (hs.symm.trans HF.out)
        have t := nateq hz
        clear hs hc hz
        go_wp2_with fail
        refine HO.out.mono ?_
        rintro e w2 ⟨rfl, hb⟩
        have HB2 := Lib.hid (HB.out.trans (hb.mono HB.out.size))
        clear hb
        go_wp2_with fail
        go_roundw
        case rel => exact ⟨k + 1, by omega, by go_num, HN.out, HB2.out⟩
        case measure => simp [intOf]; omega
      · rw [if_neg hz] at hs
        have HV := Lib.hid (HM.out.1 _ (HF.out.symm.trans hs))
        have t := natne hz
        clear hs hc hz
        go_wp2_with fail
        refine HO.out.mono ?_
        rintro e w2 ⟨rfl, hb⟩
        have HB2 := Lib.hid (HB.out.trans (hb.mono HB.out.size))
        clear hb
        go_wp2_with fail
        go_ret2
        rw [HV.out]
        exact ⟨rfl, HB2.out⟩
    · have he := fb_end (f := ck1 l) (n := l.length) (k := k) (by omega)
      have HE1 := Lib.hid (HF.out.symm.trans he)
      clear he HF
      obtain ⟨wo, hwo⟩ : ∃ wo : World, wo = wr := ⟨_, rfl⟩
      subst hwo
      go_wp2_with fail
      go_loopw [6, 7, 26] (fun _ _ i wr => ∃ k : Nat, k ≤ l.length ∧ i = .int .i64 k ∧ Hid (fb (ck2 l) (l.length - k) k = fb (ck2 l) l.length 0) ∧ Below w.heap.size w wr) (fun _ _ i _ => l.length - (intOf i).toNat)
      case atStart => exact ⟨0, Nat.zero_le _, rfl, rfl, HB.out⟩
      case round =>
        obtain ⟨k2, hk2, rfl, HF, hbw⟩ := hrel
        have HB := Lib.hid hbw
        clear hbw
        by_cases hlt2 : k2 < l.length
        · have hs := fb_step (f := ck2 l) hlt2
          have HO := Lib.hid (checkParents_pro l k2 _ wr (HS.out.below HB.out) hlt2)
          obtain ⟨c, hc⟩ : ∃ c, ck2 l k2 = c := ⟨_, rfl⟩
          rw [hc] at hs HO
          by_cases hz : c = 0
          · rw [if_pos hz] at hs
            have HN := Lib.hid (hs.symm.trans HF.out)
            have t := nateq hz
            clear hs hc hz
            go_wp2_with fail
            refine HO.out.mono ?_
            rintro e w2 ⟨rfl, hb⟩
            have HB2 := Lib.hid (HB.out.trans (hb.mono HB.out.size))
            clear hb
            go_wp2_with fail
            go_roundw
            case rel => exact ⟨k2 + 1, by omega, by go_num, HN.out, HB2.out⟩
            case measure => simp [intOf]; omega
          · rw [if_neg hz] at hs
            have HV := Lib.hid (HM.out.2.1 _ HE1.out (HF.out.symm.trans hs))
            have t := natne hz
            clear hs hc hz
            go_wp2_with fail
            refine HO.out.mono ?_
            rintro e w2 ⟨rfl, hb⟩
            have HB2 := Lib.hid (HB.out.trans (hb.mono HB.out.size))
            clear hb
            go_wp2_with fail
            go_ret2
            rw [HV.out]
            exact ⟨rfl, HB2.out⟩
        · have he := fb_end (f := ck2 l) (n := l.length) (k := k2) (by omega)
          have HV := Lib.hid (HM.out.2.2 HE1.out (HF.out.symm.trans he))
          clear he
          go_wp2_with fail
          go_ret2
          rw [HV.out]
          exact ⟨rfl, HB.out⟩
end
end Go.Proofs.YtjohhahfpgfjdaaGreatDoor.S6
end
